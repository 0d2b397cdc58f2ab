/-
  Declarations of texts that lie merged: what further laws need of ARefsA, ARefsB, ARefsC, ARefsD, ARefsF, ARefsG.
-/
import Derived.Test.YtgjnddjpinhkgaaDoorS1
import Derived.Test.YtgjnddjpinhkgaaDoorS3
import Derived.Test.YtgjnddjpinhkgaaDoorM03
import Derived.Test.YtgjnddjpinhkgaaDoorM04
import Derived.Test.YtgjnddjpinhkgaaDoorM05
import Derived.Test.YtgjnddjpinhkgaaDoorM06
import Derived.Test.YtgjnddjpinhkgaaDoorM07
import Derived.Test.YtgjnddjpinhkgaaDoorM08
namespace Go.Proofs.YtgjnddjpinhkgaaDoor.A
open Go.RowKit
open L (Str isName prt prt_iff prt_not upto upto_all upto_not size_len below_2 below_box below_drew ret_bool ret_int eql_eq bytes_eq isName_any)
theorem grownS {f : FuncId} {args : Array Value} {v : Value} {W : World} (h : ∀ w, Calls Tryd.prog f args w fun e w' => e = .returned v ∧ w' = w) (d : Nat) (os : Array Obj) :
    Calls Tryd.prog f args (Sort.grow (redrawn W d) os) fun e w'' => e = .returned v ∧ ∃ p : Regrown, w'' = Sort.grow (redrawn W p.d) p.os :=
  Calls.regrown_of ((h _).mono fun _ _ ⟨a, b⟩ => ⟨a, by rw [b]; exact Below.refl _ _⟩)
set_option maxHeartbeats 2000000 in
set_option maxRecDepth 100000 in
theorem rarity_any (op : Int) (w : World) : Calls Tryd.prog 112 #[.int .i64 op] w fun e w' => e = .returned (.int .i64 (arity op)) ∧ w' = w := by
  obtain ⟨b1, h1⟩ : ∃ b, (op == 1) = b := ⟨_, rfl⟩
  obtain ⟨b2, h2⟩ : ∃ b, (op == 2) = b := ⟨_, rfl⟩
  obtain ⟨b3, h3⟩ : ∃ b, (op == 3) = b := ⟨_, rfl⟩
  obtain ⟨b25, h25⟩ : ∃ b, (op == 25) = b := ⟨_, rfl⟩
  obtain ⟨b26, h26⟩ : ∃ b, (op == 26) = b := ⟨_, rfl⟩
  obtain ⟨b27, h27⟩ : ∃ b, (op == 27) = b := ⟨_, rfl⟩
  obtain ⟨b9, h9⟩ : ∃ b, (op == 9) = b := ⟨_, rfl⟩
  obtain ⟨b18, h18⟩ : ∃ b, (op == 18) = b := ⟨_, rfl⟩
  obtain ⟨b20, h20⟩ : ∃ b, (op == 20) = b := ⟨_, rfl⟩
  obtain ⟨b21, h21⟩ : ∃ b, (op == 21) = b := ⟨_, rfl⟩
  obtain ⟨b22, h22⟩ : ∃ b, (op == 22) = b := ⟨_, rfl⟩
  obtain ⟨b23, h23⟩ : ∃ b, (op == 23) = b := ⟨_, rfl⟩
  obtain ⟨b24, h24⟩ : ∃ b, (op == 24) = b := ⟨_, rfl⟩
  obtain ⟨p, hp⟩ : ∃ b, decide (4 ≤ op) = b := ⟨_, rfl⟩
  obtain ⟨q, hq⟩ : ∃ b, decide (op ≤ 19) = b := ⟨_, rfl⟩
  have HV : Hid (arity op = if (b1 || b2 || b3 || b25 || b26 || b27) = true then 0 else if (b9 || b18 || b20 || b21 || b22 || b23 || b24) = true then 1 else if (p && q) = true then 2 else -1) := by
    show _ = _
    subst h1 h2 h3 h25 h26 h27 h9 h18 h20 h21 h22 h23 h24 hp hq
    unfold arity
    simp only [Bool.or_eq_true, Bool.and_eq_true, beq_iff_eq, decide_eq_true_eq, or_assoc]
  go_enter Tryd.func112, Tryd.ntmps112
  go_wp2_with fail
  all_goals (clear h1 h2 h3 h25 h26 h27 h9 h18 h20 h21 h22 h23 h24 hp hq; go_ret; exact ⟨ret_int (by rw [HV.out]; clear HV; simp_all), rfl⟩)
set_option maxRecDepth 100000 in
theorem rplain_any (s : ByteArray) (w : World) : Calls Tryd.prog 77 #[.string s] w fun e w' => e = .returned (.bool (plain s)) ∧ w' = w := by
  by_cases h64 : s.size ≤ 64
  · have HP : Hid (plain s = s.data.toList.all prt) := by show _ = _; unfold plain; rw [decide_eq_true h64, Bool.true_and]
    go_enter Tryd.func77, Tryd.ntmps77
    go_wp2
    go_loopw [3] (fun s3 wr => ∃ k : Nat, k ≤ s.size ∧ s3 = .int .i64 k ∧ wr = w ∧ Hid (upto prt s k)) (fun s3 _ => s.size - (intOf s3).toNat)
    case atStart => exact ⟨0, Nat.zero_le _, rfl, rfl, fun j _ h => absurd h (Nat.not_lt_zero _)⟩
    case round =>
      obtain ⟨k, hk, rfl, rfl, HK⟩ := hrel
      by_cases hlt : k < s.size
      · cases hok : prt s[k]
        · have HV := Lib.hid (upto_not hlt hok)
          rcases prt_not hok with h | h
          · have b1 : decide ((s[k].toNat : Int) < 32) = true := decide_eq_true h
            clear hok h
            go_wp2_with fail
            go_ret
            exact ⟨ret_bool (by rw [HP.out, HV.out]), rfl⟩
          · have b1 : decide ((s[k].toNat : Int) < 32) = false := decide_eq_false (by omega)
            have b2 : decide (126 < (s[k].toNat : Int)) = true := decide_eq_true h
            clear hok h
            go_wp2_with fail
            go_ret
            exact ⟨ret_bool (by rw [HP.out, HV.out]), rfl⟩
        · have HN : Hid (upto prt s (k + 1)) := by
            intro j h hj
            by_cases e : j = k
            · subst e; exact hok
            · exact HK.out j h (by omega)
          have hp := prt_iff.1 hok
          have b1 : decide ((s[k].toNat : Int) < 32) = false := decide_eq_false (by omega)
          have b2 : decide (126 < (s[k].toNat : Int)) = false := decide_eq_false (by omega)
          clear hok hp
          go_wp2_with fail
          go_roundw
          case rel => exact ⟨k + 1, by omega, by go_num, by first | rfl | trivial, HN⟩
          case measure => simp [intOf]; omega
      · obtain rfl : k = s.size := by omega
        have HV := Lib.hid (upto_all HK.out)
        go_wp2_with fail
        go_ret
        exact ⟨ret_bool (by rw [HP.out, HV.out]), rfl⟩
  · have HP : Hid (plain s = false) := by show _ = _; unfold plain; rw [decide_eq_false h64, Bool.false_and]
    go_enter Tryd.func77, Tryd.ntmps77
    go_wp2
    go_ret
    exact ⟨ret_bool HP.out.symm, rfl⟩
end Go.Proofs.YtgjnddjpinhkgaaDoor.A
namespace Go.Proofs.YtgjnddjpinhkgaaDoor.A
open Go.RowKit
open L (Str isName prt size_len below_2 below_box ret_bool ret_int isName_any)
theorem n_arg {e : Ex} {d : Nat} (h : arity e.op < 0 ∨ (e.op ≠ 1 ∧ e.n ≠ 0) ∨ (e.op ≠ 2 ∧ e.op ≠ 3 ∧ e.s.size ≠ 0)) : nodeE e d = 1 := by unfold nodeE; rw [if_pos h]
theorem n_name {e : Ex} {d : Nat} (h : ¬ (arity e.op < 0 ∨ (e.op ≠ 1 ∧ e.n ≠ 0) ∨ (e.op ≠ 2 ∧ e.op ≠ 3 ∧ e.s.size ≠ 0))) (h2 : e.op = 3 ∧ nam e.s = false) : nodeE e d = 7 := by unfold nodeE; rw [if_neg h, if_pos h2]
theorem n_arg2 {e : Ex} {d : Nat} (h : ¬ (arity e.op < 0 ∨ (e.op ≠ 1 ∧ e.n ≠ 0) ∨ (e.op ≠ 2 ∧ e.op ≠ 3 ∧ e.s.size ≠ 0))) (h2 : ¬ (e.op = 3 ∧ nam e.s = false)) (h3 : e.n < 0 ∨ (e.op = 2 ∧ plain e.s = false) ∨ (e.args.length : Int) ≠ arity e.op) : nodeE e d = 1 := by unfold nodeE; rw [if_neg h, if_neg h2, if_pos h3]
theorem n_deep {e : Ex} {d : Nat} (h : ¬ (arity e.op < 0 ∨ (e.op ≠ 1 ∧ e.n ≠ 0) ∨ (e.op ≠ 2 ∧ e.op ≠ 3 ∧ e.s.size ≠ 0))) (h2 : ¬ (e.op = 3 ∧ nam e.s = false)) (h3 : ¬ (e.n < 0 ∨ (e.op = 2 ∧ plain e.s = false) ∨ (e.args.length : Int) ≠ arity e.op)) (h4 : 12 < d) : nodeE e d = 2 := by unfold nodeE; rw [if_neg h, if_neg h2, if_neg h3, if_pos h4]
theorem n_ok {e : Ex} {d : Nat} (h : ¬ (arity e.op < 0 ∨ (e.op ≠ 1 ∧ e.n ≠ 0) ∨ (e.op ≠ 2 ∧ e.op ≠ 3 ∧ e.s.size ≠ 0))) (h2 : ¬ (e.op = 3 ∧ nam e.s = false)) (h3 : ¬ (e.n < 0 ∨ (e.op = 2 ∧ plain e.s = false) ∨ (e.args.length : Int) ≠ arity e.op)) (h4 : ¬ 12 < d) : nodeE e d = 0 := by unfold nodeE; rw [if_neg h, if_neg h2, if_neg h3, if_neg h4]
set_option maxHeartbeats 8000000 in
set_option maxRecDepth 100000 in
theorem rnode_any (e : Ex) (a : Option Addr) (c : Nat) (d : Nat) (hd : d ≤ 1000000) (hs : e.s.size ≤ 1000000000000000) (w : World) :
    Calls Tryd.prog 130 #[exV e a c, .int .i64 (d : Int)] w fun e' w' => e' = .returned (.int .i64 (nodeE e d)) ∧ Below w.heap.size w w' := by
  have hw := below_box w (exO e a c)
  obtain ⟨c0, c1, c2, c3⟩ := exO_cells w e a c
  have hI := isName_any e.s (by omega)
  have hP := rplain_any e.s
  have hA := rarity_any e.op
  have n1 := @n_arg e d
  have n2 := @n_name e d
  have n3 := @n_arg2 e d
  have n4 := @n_deep e d
  have n5 := @n_ok e d
  generalize nodeE e d = R at n1 n2 n3 n4 n5 ⊢
  change ∀ w, Calls Tryd.prog 44 #[.string e.s] w fun e' w' => e' = .returned (.bool (nam e.s)) ∧ Below w.heap.size w w' at hI
  unfold exV
  unfold exO at hw c0 c1 c2 c3
  have he := empty_of (s := e.s)
  have he2 := nil_of (s := e.s)
  generalize hz : e.s.size = z at n1 n2 n3 n4 n5 he he2
  generalize e.s = s at *
  generalize e.n = n at *
  generalize e.args.length = k at *
  generalize e.op = op at *
  generalize nam s = I at *
  generalize plain s = P at *
  have bd : decide (12 < (d : Int)) = decide (12 < d) := decide_eq_decide.2 (by omega)
  clear hz hs
  by_cases o1 : op = 1
  · subst o1
    rw [show arity 1 = 0 from rfl] at *
    by_cases z0 : z = 0
    · rw [decide_eq_true z0] at he he2
      have H1 : ¬ ((0 : Int) < 0 ∨ ((1 : Int) ≠ 1 ∧ n ≠ 0) ∨ ((1 : Int) ≠ 2 ∧ (1 : Int) ≠ 3 ∧ z ≠ 0)) := by omega
      have H2 : ¬ ((1 : Int) = 3 ∧ I = false) := fun h => absurd h.1 (by decide)
      by_cases hn : n < 0
      · have bn : decide (n < 0) = true := decide_eq_true hn
        have HV := Lib.hid (n3 H1 H2 (Or.inl hn))
        have HA := Lib.hid hA
        have HWB := Lib.hid hw
        have HQ1 := Lib.hid (grownS (W := (w.alloc (.cells #[.int .i64 1, .int .i64 n, .string s, .slice a k c] 52))) hA)
        have HQ2 := Lib.hid (grownS (W := (w.alloc (.cells #[.int .i64 1, .int .i64 n, .string s, .slice a k c] 52))) hP)
        have d0 := fun d os => cell_regrown c0 d os
        have d1 := fun d os => cell_regrown c1 d os
        have d2 := fun d os => cell_regrown c2 d os
        have d3 := fun d os => cell_regrown c3 d os
        clear hI hP hA n1 n2 n3 n4 n5 hw c0 c1 c2 c3
        go_enter Tryd.func130, Tryd.ntmps130
        go_wp2_with fail
        refine (HA.out _).mono ?_; rintro e w1 ⟨rfl, rfl⟩
        go_wp2_with fail
        refine wp_region_quiet_below (by kernel_rfl) (by kernel_rfl) ?_
        repeat (go_big_quiet_step (first | with_reducible exact HQ1.out _ _ | with_reducible exact HQ2.out _ _))
        refine wpQuiet_nil ?_
        intro w4 hw'
        obtain ⟨⟨dq, osq⟩, hw2⟩ := hw'
        have hb4 := below_regrown (w.alloc (.cells #[.int .i64 1, .int .i64 n, .string s, .slice a k c] 52)) dq osq
        rw [← hw2] at hb4
        have HB4 := Lib.hid (below_2 HWB.out hb4)
        clear hw2 hb4
        go_wp2_with fail
        go_ret
        exact ⟨ret_int HV.out.symm, HB4.out⟩
      · have bn : decide (n < 0) = false := decide_eq_false hn
        by_cases hk : (k : Int) = 0
        · have bk : ((k : Int) != 0) = false := by rw [bne_eq_false_iff_eq]; exact hk
          have H3 : ¬ ((n : Int) < 0 ∨ ((1 : Int) = 2 ∧ P = false) ∨ (k : Int) ≠ 0) := by rintro (h | h | h) <;> omega
          by_cases h12 : 12 < d
          · rw [decide_eq_true h12] at bd
            clear hk
            have HV := Lib.hid (n4 H1 H2 H3 h12)
            have HA := Lib.hid hA
            have HWB := Lib.hid hw
            have HQ1 := Lib.hid (grownS (W := (w.alloc (.cells #[.int .i64 1, .int .i64 n, .string s, .slice a k c] 52))) hA)
            have HQ2 := Lib.hid (grownS (W := (w.alloc (.cells #[.int .i64 1, .int .i64 n, .string s, .slice a k c] 52))) hP)
            have d0 := fun d os => cell_regrown c0 d os
            have d1 := fun d os => cell_regrown c1 d os
            have d2 := fun d os => cell_regrown c2 d os
            have d3 := fun d os => cell_regrown c3 d os
            clear hI hP hA n1 n2 n3 n4 n5 hw c0 c1 c2 c3
            go_enter Tryd.func130, Tryd.ntmps130
            go_wp2_with fail
            refine (HA.out _).mono ?_; rintro e w1 ⟨rfl, rfl⟩
            go_wp2_with fail
            refine wp_region_quiet_below (by kernel_rfl) (by kernel_rfl) ?_
            repeat (go_big_quiet_step (first | with_reducible exact HQ1.out _ _ | with_reducible exact HQ2.out _ _))
            refine wpQuiet_nil ?_
            intro w4 hw'
            obtain ⟨⟨dq, osq⟩, hw2⟩ := hw'
            have hb4 := below_regrown (w.alloc (.cells #[.int .i64 1, .int .i64 n, .string s, .slice a k c] 52)) dq osq
            rw [← hw2] at hb4
            have HB4 := Lib.hid (below_2 HWB.out hb4)
            clear hw2 hb4
            go_wp2_with fail
            go_ret
            exact ⟨ret_int HV.out.symm, HB4.out⟩
          · rw [decide_eq_false h12] at bd
            clear hk
            have HV := Lib.hid (n5 H1 H2 H3 h12)
            have HA := Lib.hid hA
            have HWB := Lib.hid hw
            have HQ1 := Lib.hid (grownS (W := (w.alloc (.cells #[.int .i64 1, .int .i64 n, .string s, .slice a k c] 52))) hA)
            have HQ2 := Lib.hid (grownS (W := (w.alloc (.cells #[.int .i64 1, .int .i64 n, .string s, .slice a k c] 52))) hP)
            have d0 := fun d os => cell_regrown c0 d os
            have d1 := fun d os => cell_regrown c1 d os
            have d2 := fun d os => cell_regrown c2 d os
            have d3 := fun d os => cell_regrown c3 d os
            clear hI hP hA n1 n2 n3 n4 n5 hw c0 c1 c2 c3
            go_enter Tryd.func130, Tryd.ntmps130
            go_wp2_with fail
            refine (HA.out _).mono ?_; rintro e w1 ⟨rfl, rfl⟩
            go_wp2_with fail
            refine wp_region_quiet_below (by kernel_rfl) (by kernel_rfl) ?_
            repeat (go_big_quiet_step (first | with_reducible exact HQ1.out _ _ | with_reducible exact HQ2.out _ _))
            refine wpQuiet_nil ?_
            intro w4 hw'
            obtain ⟨⟨dq, osq⟩, hw2⟩ := hw'
            have hb4 := below_regrown (w.alloc (.cells #[.int .i64 1, .int .i64 n, .string s, .slice a k c] 52)) dq osq
            rw [← hw2] at hb4
            have HB4 := Lib.hid (below_2 HWB.out hb4)
            clear hw2 hb4
            go_wp2_with fail
            go_ret
            exact ⟨ret_int HV.out.symm, HB4.out⟩
        · have bk : ((k : Int) != 0) = true := bne_iff_ne.2 hk
          have HV := Lib.hid (n3 H1 H2 (Or.inr (Or.inr hk)))
          have HA := Lib.hid hA
          have HWB := Lib.hid hw
          have HQ1 := Lib.hid (grownS (W := (w.alloc (.cells #[.int .i64 1, .int .i64 n, .string s, .slice a k c] 52))) hA)
          have HQ2 := Lib.hid (grownS (W := (w.alloc (.cells #[.int .i64 1, .int .i64 n, .string s, .slice a k c] 52))) hP)
          have d0 := fun d os => cell_regrown c0 d os
          have d1 := fun d os => cell_regrown c1 d os
          have d2 := fun d os => cell_regrown c2 d os
          have d3 := fun d os => cell_regrown c3 d os
          clear hI hP hA n1 n2 n3 n4 n5 hw c0 c1 c2 c3
          go_enter Tryd.func130, Tryd.ntmps130
          go_wp2_with fail
          refine (HA.out _).mono ?_; rintro e w1 ⟨rfl, rfl⟩
          go_wp2_with fail
          refine wp_region_quiet_below (by kernel_rfl) (by kernel_rfl) ?_
          repeat (go_big_quiet_step (first | with_reducible exact HQ1.out _ _ | with_reducible exact HQ2.out _ _))
          refine wpQuiet_nil ?_
          intro w4 hw'
          obtain ⟨⟨dq, osq⟩, hw2⟩ := hw'
          have hb4 := below_regrown (w.alloc (.cells #[.int .i64 1, .int .i64 n, .string s, .slice a k c] 52)) dq osq
          rw [← hw2] at hb4
          have HB4 := Lib.hid (below_2 HWB.out hb4)
          clear hw2 hb4
          go_wp2_with fail
          go_ret
          exact ⟨ret_int HV.out.symm, HB4.out⟩
    · rw [decide_eq_false z0] at he he2
      have HV := Lib.hid (n1 (Or.inr (Or.inr ⟨by decide, by decide, z0⟩)))
      have HA := Lib.hid hA
      have HW := Lib.hid hw
      clear hI hP hA n1 n2 n3 n4 n5 hw c0 c1 c2 c3
      go_enter Tryd.func130, Tryd.ntmps130
      go_wp2_with fail
      refine (HA.out _).mono ?_; rintro e w1 ⟨rfl, rfl⟩
      go_wp2_with fail
      go_ret
      exact ⟨ret_int HV.out.symm, HW.out⟩
  by_cases o2 : op = 2
  · subst o2
    rw [show arity 2 = 0 from rfl] at *
    by_cases hn : n = 0
    · subst hn
      have H1 : ¬ ((0 : Int) < 0 ∨ ((2 : Int) ≠ 1 ∧ (0 : Int) ≠ 0) ∨ ((2 : Int) ≠ 2 ∧ (2 : Int) ≠ 3 ∧ z ≠ 0)) := by omega
      have H2 : ¬ ((2 : Int) = 3 ∧ I = false) := fun h => absurd h.1 (by decide)
      cases P
      · have HV := Lib.hid (n3 H1 H2 (Or.inr (Or.inl ⟨rfl, rfl⟩)))
        have HA := Lib.hid hA
        have HWB := Lib.hid hw
        have HQ1 := Lib.hid (grownS (W := (w.alloc (.cells #[.int .i64 2, .int .i64 0, .string s, .slice a k c] 52))) hA)
        have HQ2 := Lib.hid (grownS (W := (w.alloc (.cells #[.int .i64 2, .int .i64 0, .string s, .slice a k c] 52))) hP)
        have d0 := fun d os => cell_regrown c0 d os
        have d1 := fun d os => cell_regrown c1 d os
        have d2 := fun d os => cell_regrown c2 d os
        have d3 := fun d os => cell_regrown c3 d os
        clear hI hP hA n1 n2 n3 n4 n5 hw c0 c1 c2 c3
        go_enter Tryd.func130, Tryd.ntmps130
        go_wp2_with fail
        refine (HA.out _).mono ?_; rintro e w1 ⟨rfl, rfl⟩
        go_wp2_with fail
        refine wp_region_quiet_below (by kernel_rfl) (by kernel_rfl) ?_
        repeat (go_big_quiet_step (first | with_reducible exact HQ1.out _ _ | with_reducible exact HQ2.out _ _))
        refine wpQuiet_nil ?_
        intro w4 hw'
        obtain ⟨⟨dq, osq⟩, hw2⟩ := hw'
        have hb4 := below_regrown (w.alloc (.cells #[.int .i64 2, .int .i64 0, .string s, .slice a k c] 52)) dq osq
        rw [← hw2] at hb4
        have HB4 := Lib.hid (below_2 HWB.out hb4)
        clear hw2 hb4
        go_wp2_with fail
        go_ret
        exact ⟨ret_int HV.out.symm, HB4.out⟩
      · by_cases hk : (k : Int) = 0
        · have bk : ((k : Int) != 0) = false := by rw [bne_eq_false_iff_eq]; exact hk
          have H3 : ¬ ((0 : Int) < 0 ∨ ((2 : Int) = 2 ∧ true = false) ∨ (k : Int) ≠ 0) := by rintro (h | h | h) <;> first | omega | exact absurd h.2 (by decide) | exact h hk
          by_cases h12 : 12 < d
          · rw [decide_eq_true h12] at bd
            clear hk
            have HV := Lib.hid (n4 H1 H2 H3 h12)
            have HA := Lib.hid hA
            have HWB := Lib.hid hw
            have HQ1 := Lib.hid (grownS (W := (w.alloc (.cells #[.int .i64 2, .int .i64 0, .string s, .slice a k c] 52))) hA)
            have HQ2 := Lib.hid (grownS (W := (w.alloc (.cells #[.int .i64 2, .int .i64 0, .string s, .slice a k c] 52))) hP)
            have d0 := fun d os => cell_regrown c0 d os
            have d1 := fun d os => cell_regrown c1 d os
            have d2 := fun d os => cell_regrown c2 d os
            have d3 := fun d os => cell_regrown c3 d os
            clear hI hP hA n1 n2 n3 n4 n5 hw c0 c1 c2 c3
            go_enter Tryd.func130, Tryd.ntmps130
            go_wp2_with fail
            refine (HA.out _).mono ?_; rintro e w1 ⟨rfl, rfl⟩
            go_wp2_with fail
            refine wp_region_quiet_below (by kernel_rfl) (by kernel_rfl) ?_
            repeat (go_big_quiet_step (first | with_reducible exact HQ1.out _ _ | with_reducible exact HQ2.out _ _))
            refine wpQuiet_nil ?_
            intro w4 hw'
            obtain ⟨⟨dq, osq⟩, hw2⟩ := hw'
            have hb4 := below_regrown (w.alloc (.cells #[.int .i64 2, .int .i64 0, .string s, .slice a k c] 52)) dq osq
            rw [← hw2] at hb4
            have HB4 := Lib.hid (below_2 HWB.out hb4)
            clear hw2 hb4
            go_wp2_with fail
            go_ret
            exact ⟨ret_int HV.out.symm, HB4.out⟩
          · rw [decide_eq_false h12] at bd
            clear hk
            have HV := Lib.hid (n5 H1 H2 H3 h12)
            have HA := Lib.hid hA
            have HWB := Lib.hid hw
            have HQ1 := Lib.hid (grownS (W := (w.alloc (.cells #[.int .i64 2, .int .i64 0, .string s, .slice a k c] 52))) hA)
            have HQ2 := Lib.hid (grownS (W := (w.alloc (.cells #[.int .i64 2, .int .i64 0, .string s, .slice a k c] 52))) hP)
            have d0 := fun d os => cell_regrown c0 d os
            have d1 := fun d os => cell_regrown c1 d os
            have d2 := fun d os => cell_regrown c2 d os
            have d3 := fun d os => cell_regrown c3 d os
            clear hI hP hA n1 n2 n3 n4 n5 hw c0 c1 c2 c3
            go_enter Tryd.func130, Tryd.ntmps130
            go_wp2_with fail
            refine (HA.out _).mono ?_; rintro e w1 ⟨rfl, rfl⟩
            go_wp2_with fail
            refine wp_region_quiet_below (by kernel_rfl) (by kernel_rfl) ?_
            repeat (go_big_quiet_step (first | with_reducible exact HQ1.out _ _ | with_reducible exact HQ2.out _ _))
            refine wpQuiet_nil ?_
            intro w4 hw'
            obtain ⟨⟨dq, osq⟩, hw2⟩ := hw'
            have hb4 := below_regrown (w.alloc (.cells #[.int .i64 2, .int .i64 0, .string s, .slice a k c] 52)) dq osq
            rw [← hw2] at hb4
            have HB4 := Lib.hid (below_2 HWB.out hb4)
            clear hw2 hb4
            go_wp2_with fail
            go_ret
            exact ⟨ret_int HV.out.symm, HB4.out⟩
        · have bk : ((k : Int) != 0) = true := bne_iff_ne.2 hk
          have HV := Lib.hid (n3 H1 H2 (Or.inr (Or.inr hk)))
          have HA := Lib.hid hA
          have HWB := Lib.hid hw
          have HQ1 := Lib.hid (grownS (W := (w.alloc (.cells #[.int .i64 2, .int .i64 0, .string s, .slice a k c] 52))) hA)
          have HQ2 := Lib.hid (grownS (W := (w.alloc (.cells #[.int .i64 2, .int .i64 0, .string s, .slice a k c] 52))) hP)
          have d0 := fun d os => cell_regrown c0 d os
          have d1 := fun d os => cell_regrown c1 d os
          have d2 := fun d os => cell_regrown c2 d os
          have d3 := fun d os => cell_regrown c3 d os
          clear hI hP hA n1 n2 n3 n4 n5 hw c0 c1 c2 c3
          go_enter Tryd.func130, Tryd.ntmps130
          go_wp2_with fail
          refine (HA.out _).mono ?_; rintro e w1 ⟨rfl, rfl⟩
          go_wp2_with fail
          refine wp_region_quiet_below (by kernel_rfl) (by kernel_rfl) ?_
          repeat (go_big_quiet_step (first | with_reducible exact HQ1.out _ _ | with_reducible exact HQ2.out _ _))
          refine wpQuiet_nil ?_
          intro w4 hw'
          obtain ⟨⟨dq, osq⟩, hw2⟩ := hw'
          have hb4 := below_regrown (w.alloc (.cells #[.int .i64 2, .int .i64 0, .string s, .slice a k c] 52)) dq osq
          rw [← hw2] at hb4
          have HB4 := Lib.hid (below_2 HWB.out hb4)
          clear hw2 hb4
          go_wp2_with fail
          go_ret
          exact ⟨ret_int HV.out.symm, HB4.out⟩
    · have bn : (n != 0) = true := bne_iff_ne.2 hn
      have HV := Lib.hid (n1 (Or.inr (Or.inl ⟨by decide, hn⟩)))
      have HA := Lib.hid hA
      have HW := Lib.hid hw
      clear hI hP hA n1 n2 n3 n4 n5 hw c0 c1 c2 c3
      go_enter Tryd.func130, Tryd.ntmps130
      go_wp2_with fail
      refine (HA.out _).mono ?_; rintro e w1 ⟨rfl, rfl⟩
      go_wp2_with fail
      go_ret
      exact ⟨ret_int HV.out.symm, HW.out⟩
  by_cases o3 : op = 3
  · subst o3
    rw [show arity 3 = 0 from rfl] at *
    by_cases hn : n = 0
    · subst hn
      have H1 : ¬ ((0 : Int) < 0 ∨ ((3 : Int) ≠ 1 ∧ (0 : Int) ≠ 0) ∨ ((3 : Int) ≠ 2 ∧ (3 : Int) ≠ 3 ∧ z ≠ 0)) := by omega
      cases I
      · have HV := Lib.hid (n2 H1 ⟨rfl, rfl⟩)
        have HA := Lib.hid hA
        have HI := Lib.hid hI
        have HW := Lib.hid hw
        clear hI hP hA n1 n2 n3 n4 n5 hw c0 c1 c2 c3
        go_enter Tryd.func130, Tryd.ntmps130
        go_wp2_with fail
        refine (HA.out _).mono ?_; rintro e w1 ⟨rfl, rfl⟩
        go_wp2_with fail
        refine (HI.out _).mono ?_; rintro e w2 ⟨rfl, hb2⟩
        go_wp2_with fail
        go_ret
        exact ⟨ret_int HV.out.symm, below_2 HW.out hb2⟩
      · have H2 : ¬ ((3 : Int) = 3 ∧ true = false) := fun h => absurd h.2 (by decide)
        by_cases hk : (k : Int) = 0
        · have bk : ((k : Int) != 0) = false := by rw [bne_eq_false_iff_eq]; exact hk
          have H3 : ¬ ((0 : Int) < 0 ∨ ((3 : Int) = 2 ∧ P = false) ∨ (k : Int) ≠ 0) := by rintro (h | h | h) <;> omega
          by_cases h12 : 12 < d
          · rw [decide_eq_true h12] at bd
            clear hk
            have HV := Lib.hid (n4 H1 H2 H3 h12)
            have HA := Lib.hid hA
            have HI := Lib.hid hI
            have HPP := Lib.hid hP
            have HW := Lib.hid hw
            have C0 := Lib.hid c0
            have C1 := Lib.hid c1
            have C2 := Lib.hid c2
            have C3 := Lib.hid c3
            clear hI hP hA n1 n2 n3 n4 n5 hw c0 c1 c2 c3
            go_enter Tryd.func130, Tryd.ntmps130
            go_wp2_with fail
            refine (HA.out _).mono ?_; rintro e w1 ⟨rfl, rfl⟩
            go_wp2_with fail
            refine (HI.out _).mono ?_; rintro e w2 ⟨rfl, hb2⟩
            have d0 := fun d os => cell_regrown ((hb2.cell (by simp)).trans C0.out) d os
            have d1 := fun d os => cell_regrown ((hb2.cell (by simp)).trans C1.out) d os
            have d2 := fun d os => cell_regrown ((hb2.cell (by simp)).trans C2.out) d os
            have d3 := fun d os => cell_regrown ((hb2.cell (by simp)).trans C3.out) d os
            have HWB := Lib.hid (below_2 HW.out hb2)
            have HQ1 := Lib.hid (grownS (W := w2) HA.out)
            have HQ2 := Lib.hid (grownS (W := w2) HPP.out)
            clear hb2
            go_wp2_with fail
            refine wp_region_quiet_below (by kernel_rfl) (by kernel_rfl) ?_
            repeat (go_big_quiet_step (first | with_reducible exact HQ1.out _ _ | with_reducible exact HQ2.out _ _))
            refine wpQuiet_nil ?_
            intro w4 hw'
            obtain ⟨⟨dq, osq⟩, hw2⟩ := hw'
            have hb4 := below_regrown w2 dq osq
            rw [← hw2] at hb4
            have HB4 := Lib.hid (below_2 HWB.out hb4)
            clear hw2 hb4
            go_wp2_with fail
            go_ret
            exact ⟨ret_int HV.out.symm, HB4.out⟩
          · rw [decide_eq_false h12] at bd
            clear hk
            have HV := Lib.hid (n5 H1 H2 H3 h12)
            have HA := Lib.hid hA
            have HI := Lib.hid hI
            have HPP := Lib.hid hP
            have HW := Lib.hid hw
            have C0 := Lib.hid c0
            have C1 := Lib.hid c1
            have C2 := Lib.hid c2
            have C3 := Lib.hid c3
            clear hI hP hA n1 n2 n3 n4 n5 hw c0 c1 c2 c3
            go_enter Tryd.func130, Tryd.ntmps130
            go_wp2_with fail
            refine (HA.out _).mono ?_; rintro e w1 ⟨rfl, rfl⟩
            go_wp2_with fail
            refine (HI.out _).mono ?_; rintro e w2 ⟨rfl, hb2⟩
            have d0 := fun d os => cell_regrown ((hb2.cell (by simp)).trans C0.out) d os
            have d1 := fun d os => cell_regrown ((hb2.cell (by simp)).trans C1.out) d os
            have d2 := fun d os => cell_regrown ((hb2.cell (by simp)).trans C2.out) d os
            have d3 := fun d os => cell_regrown ((hb2.cell (by simp)).trans C3.out) d os
            have HWB := Lib.hid (below_2 HW.out hb2)
            have HQ1 := Lib.hid (grownS (W := w2) HA.out)
            have HQ2 := Lib.hid (grownS (W := w2) HPP.out)
            clear hb2
            go_wp2_with fail
            refine wp_region_quiet_below (by kernel_rfl) (by kernel_rfl) ?_
            repeat (go_big_quiet_step (first | with_reducible exact HQ1.out _ _ | with_reducible exact HQ2.out _ _))
            refine wpQuiet_nil ?_
            intro w4 hw'
            obtain ⟨⟨dq, osq⟩, hw2⟩ := hw'
            have hb4 := below_regrown w2 dq osq
            rw [← hw2] at hb4
            have HB4 := Lib.hid (below_2 HWB.out hb4)
            clear hw2 hb4
            go_wp2_with fail
            go_ret
            exact ⟨ret_int HV.out.symm, HB4.out⟩
        · have bk : ((k : Int) != 0) = true := bne_iff_ne.2 hk
          have HV := Lib.hid (n3 H1 H2 (Or.inr (Or.inr hk)))
          have HA := Lib.hid hA
          have HI := Lib.hid hI
          have HPP := Lib.hid hP
          have HW := Lib.hid hw
          have C0 := Lib.hid c0
          have C1 := Lib.hid c1
          have C2 := Lib.hid c2
          have C3 := Lib.hid c3
          clear hI hP hA n1 n2 n3 n4 n5 hw c0 c1 c2 c3
          go_enter Tryd.func130, Tryd.ntmps130
          go_wp2_with fail
          refine (HA.out _).mono ?_; rintro e w1 ⟨rfl, rfl⟩
          go_wp2_with fail
          refine (HI.out _).mono ?_; rintro e w2 ⟨rfl, hb2⟩
          have d0 := fun d os => cell_regrown ((hb2.cell (by simp)).trans C0.out) d os
          have d1 := fun d os => cell_regrown ((hb2.cell (by simp)).trans C1.out) d os
          have d2 := fun d os => cell_regrown ((hb2.cell (by simp)).trans C2.out) d os
          have d3 := fun d os => cell_regrown ((hb2.cell (by simp)).trans C3.out) d os
          have HWB := Lib.hid (below_2 HW.out hb2)
          have HQ1 := Lib.hid (grownS (W := w2) HA.out)
          have HQ2 := Lib.hid (grownS (W := w2) HPP.out)
          clear hb2
          go_wp2_with fail
          refine wp_region_quiet_below (by kernel_rfl) (by kernel_rfl) ?_
          repeat (go_big_quiet_step (first | with_reducible exact HQ1.out _ _ | with_reducible exact HQ2.out _ _))
          refine wpQuiet_nil ?_
          intro w4 hw'
          obtain ⟨⟨dq, osq⟩, hw2⟩ := hw'
          have hb4 := below_regrown w2 dq osq
          rw [← hw2] at hb4
          have HB4 := Lib.hid (below_2 HWB.out hb4)
          clear hw2 hb4
          go_wp2_with fail
          go_ret
          exact ⟨ret_int HV.out.symm, HB4.out⟩
    · have bn : (n != 0) = true := bne_iff_ne.2 hn
      have HV := Lib.hid (n1 (Or.inr (Or.inl ⟨by decide, hn⟩)))
      have HA := Lib.hid hA
      have HW := Lib.hid hw
      clear hI hP hA n1 n2 n3 n4 n5 hw c0 c1 c2 c3
      go_enter Tryd.func130, Tryd.ntmps130
      go_wp2_with fail
      refine (HA.out _).mono ?_; rintro e w1 ⟨rfl, rfl⟩
      go_wp2_with fail
      go_ret
      exact ⟨ret_int HV.out.symm, HW.out⟩
  have e1 : (op != 1) = true := bne_iff_ne.2 o1
  have e2 : (op != 2) = true := bne_iff_ne.2 o2
  have e3 : (op != 3) = true := bne_iff_ne.2 o3
  have e4 : (op == 3) = false := beq_eq_false_iff_ne.2 o3
  have e5 : (op == 2) = false := beq_eq_false_iff_ne.2 o2
  generalize arity op = A at *
  by_cases hA0 : A < 0
  · have bA : decide (A < 0) = true := decide_eq_true hA0
    have HV := Lib.hid (n1 (Or.inl hA0))
    have HA := Lib.hid hA
    have HW := Lib.hid hw
    clear hI hP hA n1 n2 n3 n4 n5 hw c0 c1 c2 c3
    go_enter Tryd.func130, Tryd.ntmps130
    go_wp2_with fail
    refine (HA.out _).mono ?_; rintro e w1 ⟨rfl, rfl⟩
    go_wp2_with fail
    go_ret
    exact ⟨ret_int HV.out.symm, HW.out⟩
  have bA : decide (A < 0) = false := decide_eq_false hA0
  by_cases hn : n = 0
  · subst hn
    by_cases z0 : z = 0
    · rw [decide_eq_true z0] at he he2
      have H1 : ¬ (A < 0 ∨ (op ≠ 1 ∧ (0 : Int) ≠ 0) ∨ (op ≠ 2 ∧ op ≠ 3 ∧ z ≠ 0)) := by omega
      have H2 : ¬ (op = 3 ∧ I = false) := fun h => o3 h.1
      by_cases hk : (k : Int) = A
      · have bk : ((k : Int) != A) = false := by rw [bne_eq_false_iff_eq]; exact hk
        have H3 : ¬ ((0 : Int) < 0 ∨ ((op : Int) = 2 ∧ P = false) ∨ (k : Int) ≠ A) := by rintro (h | h | h) <;> first | omega | exact o2 h.1 | exact h hk
        by_cases h12 : 12 < d
        · rw [decide_eq_true h12] at bd
          clear hk
          have HV := Lib.hid (n4 H1 H2 H3 h12)
          have HA := Lib.hid hA
          have HWB := Lib.hid hw
          have HQ1 := Lib.hid (grownS (W := (w.alloc (.cells #[.int .i64 op, .int .i64 0, .string s, .slice a k c] 52))) hA)
          have HQ2 := Lib.hid (grownS (W := (w.alloc (.cells #[.int .i64 op, .int .i64 0, .string s, .slice a k c] 52))) hP)
          have d0 := fun d os => cell_regrown c0 d os
          have d1 := fun d os => cell_regrown c1 d os
          have d2 := fun d os => cell_regrown c2 d os
          have d3 := fun d os => cell_regrown c3 d os
          clear hI hP hA n1 n2 n3 n4 n5 hw c0 c1 c2 c3
          go_enter Tryd.func130, Tryd.ntmps130
          go_wp2_with fail
          refine (HA.out _).mono ?_; rintro e w1 ⟨rfl, rfl⟩
          go_wp2_with fail
          refine wp_region_quiet_below (by kernel_rfl) (by kernel_rfl) ?_
          repeat (go_big_quiet_step (first | with_reducible exact HQ1.out _ _ | with_reducible exact HQ2.out _ _))
          refine wpQuiet_nil ?_
          intro w4 hw'
          obtain ⟨⟨dq, osq⟩, hw2⟩ := hw'
          have hb4 := below_regrown (w.alloc (.cells #[.int .i64 op, .int .i64 0, .string s, .slice a k c] 52)) dq osq
          rw [← hw2] at hb4
          have HB4 := Lib.hid (below_2 HWB.out hb4)
          clear hw2 hb4
          go_wp2_with fail
          go_ret
          exact ⟨ret_int HV.out.symm, HB4.out⟩
        · rw [decide_eq_false h12] at bd
          clear hk
          have HV := Lib.hid (n5 H1 H2 H3 h12)
          have HA := Lib.hid hA
          have HWB := Lib.hid hw
          have HQ1 := Lib.hid (grownS (W := (w.alloc (.cells #[.int .i64 op, .int .i64 0, .string s, .slice a k c] 52))) hA)
          have HQ2 := Lib.hid (grownS (W := (w.alloc (.cells #[.int .i64 op, .int .i64 0, .string s, .slice a k c] 52))) hP)
          have d0 := fun d os => cell_regrown c0 d os
          have d1 := fun d os => cell_regrown c1 d os
          have d2 := fun d os => cell_regrown c2 d os
          have d3 := fun d os => cell_regrown c3 d os
          clear hI hP hA n1 n2 n3 n4 n5 hw c0 c1 c2 c3
          go_enter Tryd.func130, Tryd.ntmps130
          go_wp2_with fail
          refine (HA.out _).mono ?_; rintro e w1 ⟨rfl, rfl⟩
          go_wp2_with fail
          refine wp_region_quiet_below (by kernel_rfl) (by kernel_rfl) ?_
          repeat (go_big_quiet_step (first | with_reducible exact HQ1.out _ _ | with_reducible exact HQ2.out _ _))
          refine wpQuiet_nil ?_
          intro w4 hw'
          obtain ⟨⟨dq, osq⟩, hw2⟩ := hw'
          have hb4 := below_regrown (w.alloc (.cells #[.int .i64 op, .int .i64 0, .string s, .slice a k c] 52)) dq osq
          rw [← hw2] at hb4
          have HB4 := Lib.hid (below_2 HWB.out hb4)
          clear hw2 hb4
          go_wp2_with fail
          go_ret
          exact ⟨ret_int HV.out.symm, HB4.out⟩
      · have bk : ((k : Int) != A) = true := bne_iff_ne.2 hk
        have HV := Lib.hid (n3 H1 H2 (Or.inr (Or.inr hk)))
        have HA := Lib.hid hA
        have HWB := Lib.hid hw
        have HQ1 := Lib.hid (grownS (W := (w.alloc (.cells #[.int .i64 op, .int .i64 0, .string s, .slice a k c] 52))) hA)
        have HQ2 := Lib.hid (grownS (W := (w.alloc (.cells #[.int .i64 op, .int .i64 0, .string s, .slice a k c] 52))) hP)
        have d0 := fun d os => cell_regrown c0 d os
        have d1 := fun d os => cell_regrown c1 d os
        have d2 := fun d os => cell_regrown c2 d os
        have d3 := fun d os => cell_regrown c3 d os
        clear hI hP hA n1 n2 n3 n4 n5 hw c0 c1 c2 c3
        go_enter Tryd.func130, Tryd.ntmps130
        go_wp2_with fail
        refine (HA.out _).mono ?_; rintro e w1 ⟨rfl, rfl⟩
        go_wp2_with fail
        refine wp_region_quiet_below (by kernel_rfl) (by kernel_rfl) ?_
        repeat (go_big_quiet_step (first | with_reducible exact HQ1.out _ _ | with_reducible exact HQ2.out _ _))
        refine wpQuiet_nil ?_
        intro w4 hw'
        obtain ⟨⟨dq, osq⟩, hw2⟩ := hw'
        have hb4 := below_regrown (w.alloc (.cells #[.int .i64 op, .int .i64 0, .string s, .slice a k c] 52)) dq osq
        rw [← hw2] at hb4
        have HB4 := Lib.hid (below_2 HWB.out hb4)
        clear hw2 hb4
        go_wp2_with fail
        go_ret
        exact ⟨ret_int HV.out.symm, HB4.out⟩
    · rw [decide_eq_false z0] at he he2
      have HV := Lib.hid (n1 (Or.inr (Or.inr ⟨o2, o3, z0⟩)))
      have HA := Lib.hid hA
      have HW := Lib.hid hw
      clear hI hP hA n1 n2 n3 n4 n5 hw c0 c1 c2 c3
      go_enter Tryd.func130, Tryd.ntmps130
      go_wp2_with fail
      refine (HA.out _).mono ?_; rintro e w1 ⟨rfl, rfl⟩
      go_wp2_with fail
      go_ret
      exact ⟨ret_int HV.out.symm, HW.out⟩
  · have bn : (n != 0) = true := bne_iff_ne.2 hn
    have HV := Lib.hid (n1 (Or.inr (Or.inl ⟨o1, hn⟩)))
    have HA := Lib.hid hA
    have HW := Lib.hid hw
    clear hI hP hA n1 n2 n3 n4 n5 hw c0 c1 c2 c3
    go_enter Tryd.func130, Tryd.ntmps130
    go_wp2_with fail
    refine (HA.out _).mono ?_; rintro e w1 ⟨rfl, rfl⟩
    go_wp2_with fail
    go_ret
    exact ⟨ret_int HV.out.symm, HW.out⟩
end Go.Proofs.YtgjnddjpinhkgaaDoor.A
namespace Go.Proofs.YtgjnddjpinhkgaaDoor.A
open Go.RowKit
open L (Str isName prt size_len below_2 below_box ret_bool ret_int)
theorem drop_ex {l : List Ex} {k : Nat} (h : k < l.length) : l.drop k = l[k] :: l.drop (k + 1) := List.drop_eq_getElem_cons h
/-- the box of an expression, later -/
theorem box_later {w w' : World} {e : Ex} {a : Option Addr} {c : Nat} (hb : Below (w.alloc (exO e a c)).heap.size (w.alloc (exO e a c)) w') :
    w'.cell? ⟨w.heap.size, 0, none⟩ = some (.int .i64 e.op) ∧ w'.cell? ⟨w.heap.size, 1, none⟩ = some (.int .i64 e.n) ∧ w'.cell? ⟨w.heap.size, 2, none⟩ = some (.string e.s) ∧ w'.cell? ⟨w.heap.size, 3, none⟩ = some (.slice a e.args.length c) := by
  obtain ⟨c0, c1, c2, c3⟩ := exO_cells w e a c
  have hlt : w.heap.size < (w.alloc (exO e a c)).heap.size := by simp
  exact ⟨(hb.cell hlt).trans c0, (hb.cell hlt).trans c1, (hb.cell hlt).trans c2, (hb.cell hlt).trans c3⟩
set_option maxHeartbeats 4000000 in
set_option maxRecDepth 100000 in
theorem rvalid_any : ∀ (e : Ex) (a : Option Addr) (c : Nat) (d : Nat), d ≤ 1000 → okE e → ∀ w : World, Kids w a e.args →
    Calls Tryd.prog 111 #[exV e a c, .int .i64 (d : Int)] w fun e' w' => e' = .returned (.int .i64 (vE e d)) ∧ Below w.heap.size w w' := by
  refine Ex.ind (P := fun e => ∀ (a : Option Addr) (c : Nat) (d : Nat), d ≤ 1000 → okE e → ∀ w : World, Kids w a e.args → Calls Tryd.prog 111 #[exV e a c, .int .i64 (d : Int)] w fun e' w' => e' = .returned (.int .i64 (vE e d)) ∧ Below w.heap.size w w') ?_
  intro o n s l ih a c d hd hok w hK
  obtain ⟨hs, hl, hoks⟩ := okE_open hok
  have HNd := Lib.hid (rnode_any (.mk o n s l) a c d (by omega) hs)
  have HW := Lib.hid (below_box w (exO (.mk o n s l) a c))
  have HBL := Lib.hid (fun w' hb => box_later (w := w) (w' := w') (e := .mk o n s l) (a := a) (c := c) hb)
  have HKK : Hid (Kids w a l) := hK
  have HIH := Lib.hid ih
  have HOK := Lib.hid hoks
  by_cases hx : nodeE (.mk o n s l) d = 0
  · have hv : vE (.mk o n s l) d = vEs l (d + 1) := by rw [vE, if_neg (fun h => h hx)]
    have h12 : d ≤ 12 := by
      apply Decidable.byContradiction
      intro h
      unfold nodeE at hx
      repeat' split at hx
      all_goals first | omega | cases hx
    rw [hv]
    rw [hx] at HNd
    obtain ⟨R, hR⟩ : ∃ R, vEs l (d + 1) = R := ⟨_, rfl⟩
    rw [hR]
    have HR : Hid (vEs (l.drop 0) (d + 1) = R) := hR
    simp only [exV_mk, exO_mk, op_mk, n_mk, s_mk, args_mk] at HNd HW HBL ⊢
    obtain ⟨m, hm⟩ : ∃ m, l.length = m := ⟨_, rfl⟩
    have HL := Lib.hid hm
    rw [hm] at HNd HW HBL hl ⊢
    clear hx hv hR hm hK ih hoks hok
    go_enter Tryd.func111, Tryd.ntmps111
    go_wp2_with fail
    refine (HNd.out _).mono ?_; rintro e w1 ⟨rfl, hb1⟩
    have HB1 := Lib.hid hb1
    clear hb1
    go_wp2_with fail
    go_loopw [6] (fun s6 wr => ∃ k : Nat, k ≤ m ∧ s6 = .int .i64 k ∧ Hid (vEs (l.drop k) (d + 1) = R) ∧ Hid (Below (w.alloc (.cells #[.int .i64 o, .int .i64 n, .string s, .slice a m c] 52)).heap.size (w.alloc (.cells #[.int .i64 o, .int .i64 n, .string s, .slice a m c] 52)) wr)) (fun s6 _ => m - (intOf s6).toNat)
    case atStart => exact ⟨0, Nat.zero_le _, rfl, HR, HB1⟩
    case round =>
      obtain ⟨k, hk, rfl, HK, HB⟩ := hrel
      obtain ⟨c0, c1, c2, c3⟩ := HBL.out _ HB.out
      have HBB := Lib.hid (below_2 HW.out HB.out)
      by_cases hlt : k < m
      · have hlx : k < l.length := by rw [HL.out]; exact hlt
        have hkk := HK.out
        rw [drop_ex hlx, vEs] at hkk
        obtain ⟨b2, i2, rfl, hat⟩ := (HKK.out.below HBB.out).open hlx
        obtain ⟨d0, d1, d2, a2, cc, d3, hk2⟩ := hat.open
        have HC := Lib.hid (HIH.out k hlx a2 cc (d + 1) (by omega) (HOK.out.get k hlx) _ hk2)
        clear hat hk2
        generalize vE l[k] (d + 1) = x at HC hkk
        unfold exV at HC
        simp only [Int.natCast_add, Int.natCast_one] at HC
        generalize l[k].args.length = m2 at d3 HC
        generalize l[k].op = o2 at d0 HC
        generalize l[k].n = n2 at d1 HC
        generalize l[k].s = s2 at d2 HC
        by_cases hx : x = 0
        · have bx : (x != 0) = false := by rw [bne_eq_false_iff_eq]; exact hx
          rw [if_neg (fun h => h hx)] at hkk
          have HN := Lib.hid hkk
          clear hkk hx
          go_wp2_with fail
          refine HC.out.mono ?_; rintro e w2 ⟨rfl, hb2⟩
          go_wp2_with fail
          go_roundw
          case rel => exact ⟨k + 1, by omega, by go_num, HN, below_2 HB.out hb2⟩
          case measure => simp [intOf]; omega
        · have bx : (x != 0) = true := bne_iff_ne.2 hx
          rw [if_pos hx] at hkk
          have HV := Lib.hid hkk
          clear hkk hx
          go_wp2_with fail
          refine HC.out.mono ?_; rintro e w2 ⟨rfl, hb2⟩
          go_wp2_with fail
          go_ret
          exact ⟨ret_int HV.out, below_2 HBB.out hb2⟩
      · have HV : Hid (R = 0) := by
          show _ = _
          rw [← HK.out, List.drop_of_length_le (by rw [HL.out]; omega), vEs]
        go_wp2_with fail
        go_ret
        exact ⟨ret_int HV.out.symm, HBB.out⟩
  · have HV : Hid (vE (.mk o n s l) d = nodeE (.mk o n s l) d) := by show _ = _; rw [vE, if_pos hx]
    have bx : (nodeE (.mk o n s l) d != 0) = true := bne_iff_ne.2 hx
    generalize nodeE (.mk o n s l) d = x at HNd HV bx
    rw [HV.out]
    simp only [exV_mk, exO_mk] at HNd HW ⊢
    clear hx HV HIH HBL hK ih hoks hok
    go_enter Tryd.func111, Tryd.ntmps111
    go_wp2_with fail
    refine (HNd.out _).mono ?_; rintro e w1 ⟨rfl, hb1⟩
    go_wp2_with fail
    go_ret
    exact ⟨rfl, below_2 HW.out hb1⟩
theorem rvalidExpr_any (e : Ex) (a : Option Addr) (c : Nat) (hok : okE e) (w : World) (hK : Kids w a e.args) :
    Calls Tryd.prog 75 #[exV e a c] w fun e' w' => e' = .returned (.int .i64 (vE e 1)) ∧ Below w.heap.size w w' := by
  have HC := Lib.hid (fun w h => rvalid_any e a c 1 (by decide) hok w h)
  have hw := below_box w (exO e a c)
  have HK2 := Lib.hid (hK.below hw)
  have HW := Lib.hid hw
  generalize vE e 1 = x at HC ⊢
  unfold exV exO at *
  simp only [show ((1 : Nat) : Int) = 1 from rfl] at HC
  clear hw hK
  go_enter Tryd.func75, Tryd.ntmps75
  go_wp2_with fail
  refine (HC.out _ HK2.out).mono ?_; rintro e w1 ⟨rfl, hb1⟩
  go_wp2_with fail
  go_ret
  exact ⟨rfl, below_2 HW.out hb1⟩
end Go.Proofs.YtgjnddjpinhkgaaDoor.A
namespace Go.Proofs.YtgjnddjpinhkgaaDoor.A
open Go.RowKit
open L (Str isName prt size_len below_2 below_box ret_bool ret_int eql_eq bytes_eq)
theorem cEs_take {l : List Ex} {k : Nat} (h : k < l.length) : cEs (l.take (k + 1)) = cEs (l.take k) + cE l[k] := by
  induction l generalizing k with
  | nil => cases h
  | cons e l ih =>
    cases k with
    | zero => simp [cEs]
    | succ k =>
      have := ih (k := k) (by simpa using h)
      simp only [List.take_succ_cons, cEs, List.getElem_cons_succ] at this ⊢
      omega
theorem cEs_le (l : List Ex) (k : Nat) : cEs (l.take k) ≤ cEs l := by
  induction l generalizing k with
  | nil => simp
  | cons e l ih =>
    cases k with
    | zero => simp [cEs]
    | succ k =>
      have := ih k
      simp only [List.take_succ_cons, cEs] at this ⊢
      omega
set_option maxHeartbeats 4000000 in
set_option maxRecDepth 100000 in
theorem rcount_any : ∀ (e : Ex) (a : Option Addr) (c : Nat) (m : Int), -100000000000000000 ≤ m → m ≤ 1000000 → okE e → ∀ w : World, Kids w a e.args →
    Calls Tryd.prog 60 #[exV e a c, .int .i64 m] w fun e' w' => (∃ r : Int, e' = .returned (.int .i64 r) ∧ Cnt (cE e) m r) ∧ Below w.heap.size w w' := by
  refine Ex.ind (P := fun e => ∀ (a : Option Addr) (c : Nat) (m : Int), -100000000000000000 ≤ m → m ≤ 1000000 → okE e → ∀ w : World, Kids w a e.args →
    Calls Tryd.prog 60 #[exV e a c, .int .i64 m] w fun e' w' => (∃ r : Int, e' = .returned (.int .i64 r) ∧ Cnt (cE e) m r) ∧ Below w.heap.size w w') ?_
  intro o n s l ih a c m hm0 hm1 hok w hK
  obtain ⟨hs, hl, hoks⟩ := okE_open hok
  have HW := Lib.hid (below_box w (exO (.mk o n s l) a c))
  have HBL := Lib.hid (fun w' hb => box_later (w := w) (w' := w') (e := .mk o n s l) (a := a) (c := c) hb)
  have HKK : Hid (Kids w a l) := hK
  have HIH := Lib.hid ih
  have HOK := Lib.hid hoks
  simp only [exV_mk, exO_mk, op_mk, n_mk, s_mk, args_mk] at HW HBL ⊢
  obtain ⟨g, hg⟩ : ∃ g, l.length = g := ⟨_, rfl⟩
  have HL := Lib.hid hg
  have HC : Hid (cE (.mk o n s l) = 1 + s.size / 64 + cEs l) := by show _ = _; rw [cE]
  rw [hg] at HW HBL hl ⊢
  obtain ⟨q, hq⟩ : ∃ q, s.size / 64 = q := ⟨_, rfl⟩
  have hq2 : q ≤ 20000000000000 := by omega
  have hdiv : (s.size : Int).tdiv 64 = (q : Int) := by rw [← hq]; rfl
  have hdiv2 : (s.size : Int) / 64 = (q : Int) := by omega
  rw [hq] at HC
  have HC0 : Hid (Cnt (1 + q + cEs (l.take 0)) m (1 + (q : Int))) := by
    rw [List.take_zero, cEs]
    exact ⟨by omega, by omega, fun _ => by omega, fun h => by omega, by omega⟩
  clear hg hK ih hoks hok hq
  go_enter Tryd.func60, Tryd.ntmps60
  go_wp2_with fail
  go_loopw [5, 6] (fun s5 s6 wr => ∃ (k : Nat) (x : Int), k ≤ g ∧ s6 = .int .i64 k ∧ s5 = .int .i64 x ∧ 0 ≤ x ∧ x ≤ 200000000000000 ∧ Hid (Cnt (1 + q + cEs (l.take k)) m x) ∧ Hid (Below (w.alloc (.cells #[.int .i64 o, .int .i64 n, .string s, .slice a g c] 52)).heap.size (w.alloc (.cells #[.int .i64 o, .int .i64 n, .string s, .slice a g c] 52)) wr)) (fun _ s6 _ => g - (intOf s6).toNat)
  case atStart => exact ⟨0, 1 + (q : Int), Nat.zero_le _, rfl, by go_num, by omega, by omega, HC0, Below.refl _ _⟩
  case round =>
    obtain ⟨k, x, hk, rfl, rfl, hx0, hx1, HX, HB⟩ := hrel
    obtain ⟨c0, c1, c2, c3⟩ := HBL.out _ HB.out
    have HBB := Lib.hid (below_2 HW.out HB.out)
    have hcl := cEs_le l k
    by_cases hlt : k < g
    · by_cases hxm : x ≤ m
      · have hlx : k < l.length := by rw [HL.out]; exact hlt
        have hT := cEs_take hlx
        obtain ⟨b2, i2, rfl, hat⟩ := (HKK.out.below HBB.out).open hlx
        obtain ⟨d0, d1, d2, a2, cc, d3, hk2⟩ := hat.open
        have HCC := Lib.hid (HIH.out k hlx a2 cc (m - x) (by omega) (by omega) (HOK.out.get k hlx) _ hk2)
        have HT := Lib.hid hT
        clear hat hk2 hT hcl
        unfold exV at HCC
        generalize cE l[k] = y at HCC HT
        generalize l[k].args.length = m2 at d3 HCC
        generalize l[k].op = o2 at d0 HCC
        generalize l[k].n = n2 at d1 HCC
        generalize l[k].s = s2 at d2 HCC
        have bx : decide (x ≤ m) = true := decide_eq_true hxm
        go_wp2_with fail
        refine HCC.out.mono ?_; rintro e w2 ⟨⟨r, rfl, hr⟩, hb2⟩
        have h1 := hr.pos
        have h2 := hr.top
        have HN : Hid (Cnt (1 + q + cEs (l.take (k + 1))) m (x + r)) := by
          have hc := HX.out
          have hs := hc.eq (by apply Decidable.byContradiction; intro h; have := hc.gt (by omega); omega)
          have g1 := hr.le
          have g2 := hr.eq
          have g3 := hr.gt
          rw [HT.out]
          exact ⟨by omega, by omega, fun h => by have := g2 (by omega); omega, fun h => by have := g3 (by omega); omega, by omega⟩
        have hxr : x + r ≤ 200000000000000 := by omega
        clear hr
        go_wp2_with fail
        go_roundw
        case rel => exact ⟨k + 1, x + r, by omega, by go_num, by go_num, by omega, hxr, HN, below_2 HB.out hb2⟩
        case measure => simp [intOf]; omega
      · have HV : Hid (Cnt (cE (.mk o n s l)) m x) := by
          have hc := HX.out
          have h1 := hc.le
          have h2 := hc.top
          rw [HC.out]
          exact ⟨hx0, by omega, fun h => by omega, fun _ => by omega, h2⟩
        have bx : decide (x ≤ m) = false := decide_eq_false hxm
        clear hcl
        go_wp2_with fail
        go_ret
        exact ⟨⟨x, rfl, HV.out⟩, HBB.out⟩
    · have HV : Hid (Cnt (cE (.mk o n s l)) m x) := by
        have hc := HX.out
        rw [List.take_of_length_le (by rw [HL.out]; omega), ← HC.out] at hc
        exact hc
      clear hcl
      go_wp2_with fail
      go_ret
      exact ⟨⟨x, rfl, HV.out⟩, HBB.out⟩
end Go.Proofs.YtgjnddjpinhkgaaDoor.A
namespace Go.Proofs.YtgjnddjpinhkgaaDoor.A
open Go.RowKit
open L (Str isName prt size_len below_2 below_box ret_bool ret_int eql_eq bytes_eq)
theorem Core.plus {x y : Nat} {m n : Int} (h : Core x m n) (hn : n ≤ m) : Core (x + y) m (n + y) := by
  obtain ⟨a1, a2, a3, a4⟩ := h
  have : n = x := a3 (by apply Decidable.byContradiction; intro hx; have := a4 (by omega); omega)
  exact ⟨by omega, by omega, fun h => by omega, fun h => by omega⟩
theorem cB_take {l : List St} {k : Nat} (h : k < l.length) : cB (l.take (k + 1)) = cB (l.take k) + cS l[k] := by
  induction l generalizing k with
  | nil => cases h
  | cons e l ih =>
    cases k with
    | zero => simp [cB]
    | succ k =>
      have := ih (k := k) (by simpa using h)
      simp only [List.take_succ_cons, cB, List.getElem_cons_succ] at this ⊢
      omega
theorem cB_le (l : List St) (k : Nat) : cB (l.take k) ≤ cB l := by
  induction l generalizing k with
  | nil => simp
  | cons e l ih =>
    cases k with
    | zero => simp [cB]
    | succ k =>
      have := ih k
      simp only [List.take_succ_cons, cB] at this ⊢
      omega
def QC (l : List St) : Prop := ∀ (a : Option Addr) (c : Nat) (m : Int), -10000000000000000 ≤ m → m ≤ 1000000 → l.length ≤ 1000000000000000 → okB l → ∀ w : World, Bodies w a l →
    Calls Tryd.prog 29 #[.slice a l.length c, .int .i64 m] w fun e' w' => (∃ r : Int, e' = .returned (.int .i64 r) ∧ CntB (cB l) m r) ∧ Below w.heap.size w w'
set_option maxHeartbeats 8000000 in
set_option maxRecDepth 100000 in
theorem rcountBody_any : ∀ l, QC l := by
  refine body_ind fun l ih => ?_
  intro a c m hm0 hm1 hl hok w hK
  have HKK : Hid (Bodies w a l) := hK
  have HIH := Lib.hid ih
  have HOK := Lib.hid hok
  obtain ⟨g, hg⟩ : ∃ g, l.length = g := ⟨_, rfl⟩
  have HL := Lib.hid hg
  rw [hg] at hl ⊢
  have HC0 : Hid (m < 0 ∨ Core (cB (l.take 0)) m 0) := by
    rw [List.take_zero, cB]
    by_cases h : m < 0
    · exact Or.inl h
    · exact Or.inr ⟨by omega, by omega, fun _ => rfl, fun h => by omega⟩
  clear hg hK ih hok
  go_enter Tryd.func29, Tryd.ntmps29
  go_wp2_with fail
  go_loopw [5, 6] (fun s5 s6 wr => ∃ (k : Nat) (x : Int), k ≤ g ∧ s6 = .int .i64 k ∧ s5 = .int .i64 x ∧ 0 ≤ x ∧ x ≤ max m 0 + 300000000000000 ∧ (m < 0 → x = 0) ∧ Hid (m < 0 ∨ Core (cB (l.take k)) m x) ∧ Below w.heap.size w wr) (fun _ s6 _ => g - (intOf s6).toNat)
  case atStart => exact ⟨0, 0, Nat.zero_le _, rfl, rfl, by omega, by omega, fun _ => rfl, HC0, Below.refl _ _⟩
  case round =>
    obtain ⟨k, x, hk, rfl, rfl, hx0, hx1, hxn, HX, hb⟩ := hrel
    have hcl := cB_le l k
    by_cases hlt : k < g
    · by_cases hxm : x ≤ m
      · have hm : 0 ≤ m := by omega
        have hX : Core (cB (l.take k)) m x := HX.out.resolve_left (by omega)
        have hlx : k < l.length := by rw [HL.out]; exact hlt
        have hT := cB_take hlx
        rw [cS_parts] at hT
        obtain ⟨b2, i2, rfl, hat⟩ := (HKK.out.below hb).open hlx
        have ho := okS_open (HOK.out.get k hlx)
        obtain ⟨q1, q2⟩ := HIH.out k hlx
        generalize l[k] = s at hat hT ho q1 q2
        obtain ⟨a1, c1, a2, c2, a3, c3, a4, c4, hcs, hks⟩ := hat.open
        have HE1 := Lib.hid (fun m hm0 hm1 w hK => rcount_any s.a a1 c1 m hm0 hm1 ho.a w hK)
        have HE2 := Lib.hid (fun m hm0 hm1 w hK => rcount_any s.b a2 c2 m hm0 hm1 ho.b w hK)
        have HQ1 := Lib.hid (fun m hm0 hm1 w hK => q1 a3 c3 m hm0 hm1 ho.bodyLen ho.body w hK)
        have HQ2 := Lib.hid (fun m hm0 hm1 w hK => q2 a4 c4 m hm0 hm1 ho.elsLen ho.els w hK)
        have HCs := Lib.hid hcs
        have HKs := Lib.hid hks
        obtain ⟨k0, k1, k2, k3, k4, k5, k6, k7, k8, k9, k10, k11, k12⟩ := hcs
        have hnm := ho.name
        obtain ⟨q, hq⟩ : ∃ q, s.name.size / 64 = q := ⟨_, rfl⟩
        have hq2 : q ≤ 20000000000000 := by omega
        have hdiv : (s.name.size : Int).tdiv 64 = (q : Int) := by rw [← hq]; rfl
        have hdiv2 : (s.name.size : Int) / 64 = (q : Int) := by omega
        rw [hq] at hT
        have HX1 : Hid (Core (cB (l.take k) + (1 + q)) m (x + 1 + (q : Int))) := by
          have := hX.plus (y := 1 + q) hxm
          rwa [show x + ((1 + q : Nat) : Int) = x + 1 + (q : Int) by omega] at this
        have HT := Lib.hid hT
        have bx : decide (x ≤ m) = true := decide_eq_true hxm
        unfold exV at HE1 HE2
        have hx1m : x ≤ 1000000 := by omega
        clear hX hT hat q1 q2 ho hq hcl hks hx1 hxn
        go_wp2_with fail
        refine (HE1.out (m - (x + 1 + (q : Int))) (by omega) (by omega) _ HKs.out.a).mono ?_; rintro e w1 ⟨⟨r1, rfl, hr1⟩, hb1⟩
        have HR1 := Lib.hid hr1.core
        have p1 := hr1.pos
        have t1 := hr1.top
        clear hr1 k0 k1 k2 k3 k4 k5 k6 k7 k8 k9 k10 k11 k12
        have HB1 := Lib.hid hb1
        obtain ⟨k0, k1, k2, k3, k4, k5, k6, k7, k8, k9, k10, k11, k12⟩ := HCs.out.below hb1
        clear hb1
        go_wp2_with fail
        refine (HE2.out (m - (x + 1 + (q : Int) + r1)) (by omega) (by omega) _ (HKs.out.below HB1.out).b).mono ?_; rintro e w2 ⟨⟨r2, rfl, hr2⟩, hb2⟩
        have HR2 := Lib.hid hr2.core
        have p2 := hr2.pos
        have t2 := hr2.top
        clear hr2 k0 k1 k2 k3 k4 k5 k6 k7 k8 k9 k10 k11 k12
        have HB2 := Lib.hid (below_2 HB1.out hb2)
        obtain ⟨k0, k1, k2, k3, k4, k5, k6, k7, k8, k9, k10, k11, k12⟩ := HCs.out.below HB2.out
        clear hb2
        go_wp2_with fail
        refine (HQ1.out (m - (x + 1 + (q : Int) + r1 + r2)) (by omega) (by omega) _ (HKs.out.below HB2.out).body).mono ?_; rintro e w3 ⟨⟨r3, rfl, hr3⟩, hb3⟩
        have HR3 := Lib.hid hr3.core
        have p3 := hr3.core.pos
        have t3 := hr3.top
        have u3 : x + 1 + (q : Int) + r1 + r2 + r3 ≤ m + 300000000000000 := by
          by_cases h : m - (x + 1 + (q : Int) + r1 + r2) < 0
          · have := hr3.none h; omega
          · omega
        clear hr3 t3 k0 k1 k2 k3 k4 k5 k6 k7 k8 k9 k10 k11 k12
        have HB3 := Lib.hid (below_2 HB2.out hb3)
        obtain ⟨k0, k1, k2, k3, k4, k5, k6, k7, k8, k9, k10, k11, k12⟩ := HCs.out.below HB3.out
        clear hb3
        go_wp2_with fail
        refine (HQ2.out (m - (x + 1 + (q : Int) + r1 + r2 + r3)) (by omega) (by omega) _ (HKs.out.below HB3.out).els).mono ?_; rintro e w4 ⟨⟨r4, rfl, hr4⟩, hb4⟩
        have p4 := hr4.core.pos
        have t4 := hr4.top
        have u4 : x + 1 + (q : Int) + r1 + r2 + r3 + r4 ≤ max m 0 + 300000000000000 := by
          by_cases h : m - (x + 1 + (q : Int) + r1 + r2 + r3) < 0
          · have := hr4.none h; omega
          · omega
        have HN : Hid (m < 0 ∨ Core (cB (l.take (k + 1))) m (x + 1 + (q : Int) + r1 + r2 + r3 + r4)) := by
          right
          have := (((HX1.out.add HR1.out).add HR2.out).add HR3.out).add hr4.core
          rw [HT.out]
          have e : cB (l.take k) + (1 + q + cE s.a + cE s.b + cB s.body + cB s.els) = cB (l.take k) + (1 + q) + cE s.a + cE s.b + cB s.body + cB s.els := by omega
          rw [e]
          exact this
        have HB4 := Lib.hid (below_2 (below_2 hb HB3.out) hb4)
        clear hr4 t4 k0 k1 k2 k3 k4 k5 k6 k7 k8 k9 k10 k11 k12 hb4
        go_wp2_with fail
        go_roundw
        case rel => exact ⟨k + 1, x + 1 + (q : Int) + r1 + r2 + r3 + r4, by omega, by go_num, by go_num, by omega, u4, fun h => absurd h (by omega), HN, HB4.out⟩
        case measure => simp [intOf]; omega
      · have HV : Hid (CntB (cB l) m x) := by
          show CntB _ _ _
          refine ⟨?_, hx1, hxn⟩
          rcases HX.out with h | h
          · have := hxn h
            subst this
            exact ⟨by omega, by omega, fun h2 => by omega, fun _ => by omega⟩
          · have h1 := h.le
            exact ⟨hx0, by omega, fun h => by omega, fun _ => by omega⟩
        have bx : decide (x ≤ m) = false := decide_eq_false hxm
        clear hcl hxn
        go_wp2_with fail
        go_ret
        exact ⟨⟨x, rfl, HV.out⟩, hb⟩
    · have HV : Hid (CntB (cB l) m x) := by
        show CntB _ _ _
        refine ⟨?_, hx1, hxn⟩
        rcases HX.out with h | h
        · have := hxn h
          subst this
          exact ⟨by omega, by omega, fun h2 => by omega, fun _ => by omega⟩
        · rw [List.take_of_length_le (by rw [HL.out]; omega)] at h
          exact h
      clear hcl hxn
      go_wp2_with fail
      go_ret
      exact ⟨⟨x, rfl, HV.out⟩, hb⟩
end Go.Proofs.YtgjnddjpinhkgaaDoor.A
namespace Go.Proofs.YtgjnddjpinhkgaaDoor.A
open Go.RowKit
open L (Str isName prt size_len below_2 below_box ret_bool ret_int eql_eq bytes_eq)
theorem small_bad {p : Pr} {m k : Nat} (h : k < p.params.length) (h2 : 200 < p.params[k].name.size) : small p m = false := by
  unfold small
  have : p.params.all (fun q => decide (q.name.size ≤ 200)) = false := List.all_eq_false.2 ⟨p.params[k], List.getElem_mem h, by rw [decide_eq_false (by omega)]; decide⟩
  rw [this]; simp
theorem small_long {p : Pr} {m : Nat} (h : 40 < p.params.length) : small p m = false := by unfold small; rw [decide_eq_false (by omega)]; rfl
theorem small_name {p : Pr} {m : Nat} (h : 200 < p.name.size) : small p m = false := by unfold small; rw [decide_eq_false (show ¬ p.name.size ≤ 200 by omega)]; simp
theorem small_end {p : Pr} {m : Nat} (h1 : ¬ 40 < p.params.length) (h2 : ¬ 200 < p.name.size) (h3 : ∀ j (h : j < p.params.length), ¬ 200 < p.params[j].name.size) : small p m = decide (cB p.body ≤ m) := by
  unfold small
  have : p.params.all (fun q => decide (q.name.size ≤ 200)) = true := by
    rw [List.all_eq_true]
    intro q hq
    obtain ⟨j, hj, rfl⟩ := List.getElem_of_mem hq
    exact decide_eq_true (by have := h3 j hj; omega)
  rw [this, decide_eq_true (by omega), decide_eq_true (by omega)]; rfl
set_option maxHeartbeats 4000000 in
set_option maxRecDepth 100000 in
theorem rsmall_any (p : Pr) (a1 : Option Addr) (c1 : Nat) (a2 : Option Addr) (c2 : Nat) (m : Nat) (hm : m ≤ 1000000) (hok : OkP p) (w : World) (hK : PrIn w p a1 a2) :
    Calls Tryd.prog 10 #[prV p a1 c1 a2 c2, .int .i64 (m : Int)] w fun e' w' => e' = .returned (.bool (small p m)) ∧ Below w.heap.size w w' := by
  have hw := below_box w (prO p a1 c1 a2 c2)
  have HW := Lib.hid hw
  have HBL := Lib.hid (fun w' hb => proc_later (w := w) (w' := w') (p := p) (a1 := a1) (a2 := a2) (c1 := c1) (c2 := c2) hb)
  have HKK := Lib.hid hK
  have HC := Lib.hid (fun w hK => rcountBody_any p.body a2 c2 m (by omega) (by omega) hok.bodyLen hok.body w hK)
  have HEa := Lib.hid hok.each
  have hpl := hok.params
  have hnm := hok.name
  have s1 := @small_long p m
  have s2 := @small_name p m
  have s3 : ∀ k (h : k < p.params.length), 200 < p.params[k].name.size → small p m = false := fun k h h2 => small_bad h h2
  have S3 := Lib.hid s3
  have S4 := Lib.hid (@small_end p m)
  obtain ⟨g, hg⟩ : ∃ g, p.params.length = g := ⟨_, rfl⟩
  have HL := Lib.hid hg
  unfold prV prO at *
  rw [hg] at HW HBL hpl s1 ⊢
  clear hw hK hok hg s3
  by_cases h40 : 40 < g
  · have HV := Lib.hid (s1 h40)
    have b1 : decide (40 < (g : Int)) = true := decide_eq_true (by omega)
    clear s1 s2 h40
    go_enter Tryd.func10, Tryd.ntmps10
    go_wp2_with fail
    go_ret
    exact ⟨ret_bool HV.out.symm, HW.out⟩
  · have b1 : decide (40 < (g : Int)) = false := decide_eq_false (by omega)
    by_cases h200 : 200 < p.name.size
    · have HV := Lib.hid (s2 h200)
      have b2 : decide (200 < (p.name.size : Int)) = true := decide_eq_true (by omega)
      clear s1 s2 h200
      go_enter Tryd.func10, Tryd.ntmps10
      go_wp2_with fail
      go_ret
      exact ⟨ret_bool HV.out.symm, HW.out⟩
    · have b2 : decide (200 < (p.name.size : Int)) = false := decide_eq_false (by omega)
      have S5 := Lib.hid (S4.out (by rw [HL.out]; exact h40) h200)
      clear s1 s2
      go_enter Tryd.func10, Tryd.ntmps10
      go_wp2_with fail
      go_loopw [5] (fun s5 wr => ∃ k : Nat, k ≤ g ∧ s5 = .int .i64 k ∧ Hid (∀ j (h : j < p.params.length), j < k → ¬ 200 < p.params[j].name.size) ∧ Hid (Below (w.alloc (.cells #[.string p.name, .slice a1 g c1, .slice a2 p.body.length c2] 25)).heap.size (w.alloc (.cells #[.string p.name, .slice a1 g c1, .slice a2 p.body.length c2] 25)) wr)) (fun s5 _ => g - (intOf s5).toNat)
      case atStart => exact ⟨0, Nat.zero_le _, rfl, fun j _ h => absurd h (Nat.not_lt_zero _), Below.refl _ _⟩
      case round =>
        obtain ⟨k, hk, rfl, HX, HB⟩ := hrel
        obtain ⟨c0', c1', c2'⟩ := HBL.out _ HB.out
        have HBB := Lib.hid (below_2 HW.out HB.out)
        by_cases hlt : k < g
        · have hlx : k < p.params.length := by rw [HL.out]; exact hlt
          obtain ⟨b3, i3, rfl, hc⟩ := (HKK.out.below HBB.out).params.open hlx
          obtain ⟨d0, d1⟩ := hc k hlx
          have hz := HEa.out k hlx
          by_cases hq : 200 < p.params[k].name.size
          · have HV := Lib.hid (S3.out k hlx hq)
            generalize p.params[k] = q at d0 d1 hz hq
            have b3 : decide (200 < (q.name.size : Int)) = true := decide_eq_true (by omega)
            clear hc hq
            go_wp2_with fail
            go_ret
            exact ⟨ret_bool HV.out.symm, HBB.out⟩
          · have HN : Hid (∀ j (h : j < p.params.length), j < k + 1 → ¬ 200 < p.params[j].name.size) := by
              intro j h hj
              by_cases e : j = k
              · subst e; exact hq
              · exact HX.out j h (by omega)
            generalize p.params[k] = q at d0 d1 hz hq
            have b3 : decide (200 < (q.name.size : Int)) = false := decide_eq_false (by omega)
            clear hc hq
            go_wp2_with fail
            go_roundw
            case rel => exact ⟨k + 1, by omega, by go_num, HN, HB.out⟩
            case measure => simp [intOf]; omega
        · have HVs := Lib.hid (S5.out fun j h => HX.out j h (by have := HL.out; omega))
          have HC2 := Lib.hid (HC.out _ (HKK.out.below HBB.out).body)
          generalize cB p.body = x at HC2 HVs
          go_wp2_with fail
          refine HC2.out.mono ?_; rintro e w2 ⟨⟨r, rfl, hr⟩, hb2⟩
          have HV : Hid (decide (r ≤ (m : Int)) = decide (x ≤ m)) := by
            show _ = _
            refine decide_eq_decide.2 ⟨fun h => ?_, fun h => ?_⟩
            · apply Decidable.byContradiction; intro h2; have := hr.core.gt (by omega); omega
            · have := hr.core.eq (by omega); omega
          clear hr
          go_wp2_with fail
          go_ret
          exact ⟨ret_bool (HV.out.trans HVs.out.symm), below_2 HBB.out hb2⟩
end Go.Proofs.YtgjnddjpinhkgaaDoor.A
