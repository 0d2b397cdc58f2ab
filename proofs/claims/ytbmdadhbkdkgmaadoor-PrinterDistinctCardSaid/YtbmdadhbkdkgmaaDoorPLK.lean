/-
  The laws of layer 9: PrinterDistinct: the walk.
-/
import Derived.Test.YtbmdadhbkdkgmaaDoorPLJ
import Derived.Test.YtbmdadhbkdkgmaaDoorGX
import Derived.Deep.CutRange
namespace Go.Proofs.YtbmdadhbkdkgmaaDoor.P
open Go.RowKit
open L (Str isName prt size_len below_2 below_box ret_bool ret_int ret_string bytes_eq append_list Own8)
open A
theorem eq_procs {p q : Pr} (hp : valE p = 0) (hq : valE q = 0) (okp : OkP p) (okq : OkP q) : ((ba (procT p)).toList == (ba (procT q)).toList) = eqP p q := by
  rw [L.eql_eq, oba_list, oba_list]
  unfold procT
  rw [if_pos hp, if_pos hq]
  by_cases h : p = q
  · subst h
    rw [(eqP_iff p p).2 rfl]
    exact decide_eq_true rfl
  · have h1 : eqP p q = false := Bool.eq_false_iff.2 fun e => h ((eqP_iff p q).1 e)
    rw [h1]
    exact decide_eq_false fun e => h (txP_inj (wp_here okp hp) (wp_here okq hq) e)
theorem eq_exprs {e f : Ex} (he : vE e 1 = 0) (hf : vE f 1 = 0) (oke : okE e) (okf : okE f) : ((ba (exprT e)).toList == (ba (exprT f)).toList) = eqP (exOf e) (exOf f) := by
  rw [L.eql_eq, oba_list, oba_list]
  unfold exprT
  rw [if_pos he, if_pos hf]
  by_cases h : e = f
  · subst h
    rw [(eqP_iff _ _).2 rfl]
    exact decide_eq_true rfl
  · have h1 : eqP (exOf e) (exOf f) = false := Bool.eq_false_iff.2 fun x => h (exOf_inj.1 ((eqP_iff _ _).1 x))
    rw [h1]
    exact decide_eq_false fun x => h (tx_inj (w_of 12 e 1 rfl he (mnB_ok e oke)) (w_of 12 f 1 rfl hf (mnB_ok f okf)) (by decide) (by decide) x)
set_option maxHeartbeats 8000000 in
set_option maxRecDepth 100000 in
theorem distinct_walk (p : Pr) (a1 a2 : Option Addr) (c1 c2 : Nat) (hok : OkP p) (hc : p.params.length ≤ c1) (q : Pr) (b1 b2 : Option Addr) (d1 d2 : Nat) (hokq : OkP q) (hcq : q.params.length ≤ d1) (e1 : Ex) (m1 : Option Addr) (n1 : Nat) (e2 : Ex) (m2 : Option Addr) (n2 : Nat) (hk1 : okE e1) (hk2 : okE e2) (w : World) (ht : Tab w) (hP : PrIn w p a1 a2) (hQ : PrIn w q b1 b2) (hE1 : A.Kids w m1 e1.args) (hE2 : A.Kids w m2 e2.args) :
    Calls Tryd.prog 3 #[prV p a1 c1 a2 c2, prV q b1 d1 b2 d2, .agg #[.int .i64 e1.op, .int .i64 e1.n, .string e1.s, .slice m1 e1.args.length n1, .int .i64 e2.op, .int .i64 e2.n, .string e2.s, .slice m2 e2.args.length n2]] w fun e' w' => e' = .returned (.bool true) ∧ Below w.heap.size w w' := by
  have HB := Lib.hid (below_2 (below_2 (below_box w (.cells #[.string p.name, .slice a1 p.params.length c1, .slice a2 p.body.length c2] 25)) (below_box _ (.cells #[.string q.name, .slice b1 q.params.length d1, .slice b2 q.body.length d2] 25))) (below_box _ (.cells #[.int .i64 e1.op, .int .i64 e1.n, .string e1.s, .slice m1 e1.args.length n1, .int .i64 e2.op, .int .i64 e2.n, .string e2.s, .slice m2 e2.args.length n2] 29)))
  have HXP := Lib.hid ((BoxP.new w p a1 c1 a2 c2).below (below_2 (below_box _ (.cells #[.string q.name, .slice b1 q.params.length d1, .slice b2 q.body.length d2] 25)) (below_box _ (.cells #[.int .i64 e1.op, .int .i64 e1.n, .string e1.s, .slice m1 e1.args.length n1, .int .i64 e2.op, .int .i64 e2.n, .string e2.s, .slice m2 e2.args.length n2] 29))))
  have HXQ : Hid (BoxP (((w.alloc (.cells #[.string p.name, .slice a1 p.params.length c1, .slice a2 p.body.length c2] 25)).alloc (.cells #[.string q.name, .slice b1 q.params.length d1, .slice b2 q.body.length d2] 25)).alloc (.cells #[.int .i64 e1.op, .int .i64 e1.n, .string e1.s, .slice m1 e1.args.length n1, .int .i64 e2.op, .int .i64 e2.n, .string e2.s, .slice m2 e2.args.length n2] 29)) (w.heap.size + 1) q b1 d1 b2 d2) := by
    have := (BoxP.new (w.alloc (.cells #[.string p.name, .slice a1 p.params.length c1, .slice a2 p.body.length c2] 25)) q b1 d1 b2 d2).below (below_box _ (.cells #[.int .i64 e1.op, .int .i64 e1.n, .string e1.s, .slice m1 e1.args.length n1, .int .i64 e2.op, .int .i64 e2.n, .string e2.s, .slice m2 e2.args.length n2] 29))
    unfold Hid; simpa using this
  have HL : Hid (Bx (((w.alloc (.cells #[.string p.name, .slice a1 p.params.length c1, .slice a2 p.body.length c2] 25)).alloc (.cells #[.string q.name, .slice b1 q.params.length d1, .slice b2 q.body.length d2] 25)).alloc (.cells #[.int .i64 e1.op, .int .i64 e1.n, .string e1.s, .slice m1 e1.args.length n1, .int .i64 e2.op, .int .i64 e2.n, .string e2.s, .slice m2 e2.args.length n2] 29)) (w.heap.size + 1 + 1) #[.int .i64 e1.op, .int .i64 e1.n, .string e1.s, .slice m1 e1.args.length n1, .int .i64 e2.op, .int .i64 e2.n, .string e2.s, .slice m2 e2.args.length n2] 29) := by
    have := Bx.new ((w.alloc (.cells #[.string p.name, .slice a1 p.params.length c1, .slice a2 p.body.length c2] 25)).alloc (.cells #[.string q.name, .slice b1 q.params.length d1, .slice b2 q.body.length d2] 25)) #[.int .i64 e1.op, .int .i64 e1.n, .string e1.s, .slice m1 e1.args.length n1, .int .i64 e2.op, .int .i64 e2.n, .string e2.s, .slice m2 e2.args.length n2] 29
    unfold Hid; simpa using this
  have HT := Lib.hid (ht.below HB.out)
  have HKP := Lib.hid (hP.below HB.out)
  have HKQ := Lib.hid (hQ.below HB.out)
  have HK1 := Lib.hid (hE1.below HB.out)
  have HK2 := Lib.hid (hE2.below HB.out)
  unfold prV
  clear ht hP hQ hE1 hE2
  go_enter Tryd.func3, Tryd.ntmps3
  go_upto_region 1 with fail
  generalize (((w.alloc (.cells #[.string p.name, .slice a1 p.params.length c1, .slice a2 p.body.length c2] 25)).alloc (.cells #[.string q.name, .slice b1 q.params.length d1, .slice b2 q.body.length d2] 25)).alloc (.cells #[.int .i64 e1.op, .int .i64 e1.n, .string e1.s, .slice m1 e1.args.length n1, .int .i64 e2.op, .int .i64 e2.n, .string e2.s, .slice m2 e2.args.length n2] 29)) = W at *
  generalize w.heap.size + 1 + 1 = pL at *
  generalize w.heap.size + 1 = pQ at *
  go_cut [27] from 9 to 27 (fun c wx => c = .bool false ∧ Hid (Below W.heap.size W wx))
  case first =>
    have e0g := fun d os => cell_regrown HXP.out.k0 d os
    have e1g := fun d os => cell_regrown HXP.out.k1 d os
    have e2g := fun d os => cell_regrown HXP.out.k2 d os
    have f0g := fun d os => cell_regrown HXQ.out.k0 d os
    have f1g := fun d os => cell_regrown HXQ.out.k1 d os
    have f2g := fun d os => cell_regrown HXQ.out.k2 d os
    have H1 := Lib.hid (fun (d : Nat) (os : Array Obj) => Calls.regrown_of (d := d) (os := os) (ovalidate_any p a1 a2 c1 c2 hok hc _ (HKP.out.below (below_regrown _ d os))))
    have H2 := Lib.hid (fun (d : Nat) (os : Array Obj) => Calls.regrown_of (d := d) (os := os) (ovalidate_any q b1 b2 d1 d2 hokq hcq _ (HKQ.out.below (below_regrown _ d os))))
    have H3 := Lib.hid (fun (d : Nat) (os : Array Obj) => Calls.regrown_of (d := d) (os := os) (oproct_any p hok a1 a2 c1 c2 hc _ (HT.out.below (below_regrown _ d os)) (HKP.out.below (below_regrown _ d os))))
    have H4 := Lib.hid (fun (d : Nat) (os : Array Obj) => Calls.regrown_of (d := d) (os := os) (oproct_any q hokq b1 b2 d1 d2 hcq _ (HT.out.below (below_regrown _ d os)) (HKQ.out.below (below_regrown _ d os))))
    have H5 := Lib.hid (fun (d : Nat) (os : Array Obj) => Calls.regrown_of (d := d) (os := os) (requal_any p q a1 a2 b1 b2 c1 c2 d1 d2 hok hokq _ (HKP.out.below (below_regrown _ d os)) (HKQ.out.below (below_regrown _ d os))))
    unfold prV at H1 H2 H3 H4 H5
    by_cases hp : valE p = 0
    · rw [hp] at H1
      by_cases hq : valE q = 0
      · rw [hq] at H2
        have hE := eq_procs hp hq hok hokq
        generalize eqP p q = b at H5 hE
        generalize ba (procT p) = U at H3 hE
        generalize ba (procT q) = V at H4 hE
        clear hp hq
        cases b
        · skip
          refine wp_region_quiet_below (by kernel_rfl) (by kernel_rfl) ?_
          repeat (go_big_quiet_step (with_reducible first | exact H1.out _ _ | exact H2.out _ _ | exact H3.out _ _ | exact H4.out _ _ | exact H5.out _ _))
          refine wpQuiet_nil ?_
          intro w4 hw'
          obtain ⟨⟨dq, osq⟩, hw2⟩ := hw'
          have hb4 := below_now hw2
          have HB4 := Lib.hid hb4
          clear hw2 hb4
          go_wp2_with fail
          go_meet
          case rel => exact ⟨rfl, HB4.out⟩
        · skip
          refine wp_region_quiet_below (by kernel_rfl) (by kernel_rfl) ?_
          repeat (go_big_quiet_step (with_reducible first | exact H1.out _ _ | exact H2.out _ _ | exact H3.out _ _ | exact H4.out _ _ | exact H5.out _ _))
          refine wpQuiet_nil ?_
          intro w4 hw'
          obtain ⟨⟨dq, osq⟩, hw2⟩ := hw'
          have hb4 := below_now hw2
          have HB4 := Lib.hid hb4
          clear hw2 hb4
          go_wp2_with fail
          go_meet
          case rel => exact ⟨rfl, HB4.out⟩
      · have bv : (valE q == 0) = false := by rw [beq_eq_false_iff_ne]; exact hq
        clear hp hq
        refine wp_region_quiet_below (by kernel_rfl) (by kernel_rfl) ?_
        repeat (go_big_quiet_step (with_reducible first | exact H1.out _ _ | exact H2.out _ _ | exact H3.out _ _ | exact H4.out _ _ | exact H5.out _ _))
        refine wpQuiet_nil ?_
        intro w4 hw'
        obtain ⟨⟨dq, osq⟩, hw2⟩ := hw'
        have hb4 := below_now hw2
        have HB4 := Lib.hid hb4
        clear hw2 hb4
        go_wp2_with fail
        go_meet
        case rel => exact ⟨rfl, HB4.out⟩
    · have bv : (valE p == 0) = false := by rw [beq_eq_false_iff_ne]; exact hp
      clear hp
      refine wp_region_quiet_below (by kernel_rfl) (by kernel_rfl) ?_
      repeat (go_big_quiet_step (with_reducible first | exact H1.out _ _ | exact H2.out _ _ | exact H3.out _ _ | exact H4.out _ _ | exact H5.out _ _))
      refine wpQuiet_nil ?_
      intro w4 hw'
      obtain ⟨⟨dq, osq⟩, hw2⟩ := hw'
      have hb4 := below_now hw2
      have HB4 := Lib.hid hb4
      clear hw2 hb4
      go_wp2_with fail
      go_meet
      case rel => exact ⟨rfl, HB4.out⟩
  case rest =>
    obtain ⟨rfl, HB4⟩ := hcut
    go_wp2_with fail
    have HLc := Lib.hid (HL.out.below HB4.out)
    have HTc := Lib.hid (HT.out.below HB4.out)
    have HK1c := Lib.hid (HK1.out.below HB4.out)
    have HK2c := Lib.hid (HK2.out.below HB4.out)
    have HBc := Lib.hid (HB.out.trans (HB4.out.mono HB.out.size))
    clear HL HT HK1 HK2 HB HB4 HXP HXQ HKP HKQ
    have HL := HLc
    clear HLc
    generalize wc = W2 at *
    refine wp_region_inv rfl (fun l a w' => ∃ v7 v8 v28 v29 v30 v31 v32 v33 v34 v35 v36 v37 : Value, a = { tmps := #[.agg #[.string p.name, .slice a1 p.params.length c1, .slice a2 p.body.length c2], .agg #[.string q.name, .slice b1 q.params.length d1, .slice b2 q.body.length d2], .agg #[.int .i64 e1.op, .int .i64 e1.n, .string e1.s, .slice m1 e1.args.length n1, .int .i64 e2.op, .int .i64 e2.n, .string e2.s, .slice m2 e2.args.length n2], .pointer (some ⟨w.heap.size, 0, none⟩), .pointer (some ⟨pQ, 0, none⟩), .pointer (some ⟨pL, 0, none⟩), .bool false, v7, v8, u9, u10, u11, u12, u13, u14, u15, u16, u17, u18, u19, u20, u21, u22, u23, u24, u25, u26, .bool false, v28, v29, v30, v31, v32, v33, v34, v35, v36, v37, undef, undef, undef, undef, undef, undef, undef, undef, undef, undef, undef, undef, undef, undef, undef, undef, undef, undef, undef, undef, undef, undef, undef, undef], defers := [] } ∧ I7 e1 e2 m1 m2 n1 n2 pL W2 l w' v7 v8 v28 v29 v30 v31 v32 v33 v34 v35 v36 v37) (by kernel_rfl) ?_ ?_ ?_
    · intro l hl
      refine ⟨undef, undef, undef, undef, undef, undef, undef, undef, undef, undef, undef, undef, rfl, ?_⟩
      exact { bel := L.below_drew W2, f0 := fun h => absurd h (hl _), f1 := fun h => absurd h (hl _), f2 := fun h => absurd h (hl _), f3 := fun h => absurd h (hl _), f4 := fun h => absurd h (hl _), f5 := fun h => absurd h (hl _), f6 := fun h => absurd h (hl _), f7 := fun h => absurd h (hl _), f8 := fun h => absurd h (hl _), f9 := fun h => absurd h (hl _), f10 := fun h => absurd h (hl _), f11 := fun h => absurd h (hl _), ne := fun h => absurd h (hl _), d4_3 := fun h => absurd h (hl _), d12_3 := fun h => absurd h (hl _), d9_8 := fun h => absurd h (hl _), d13_8 := fun h => absurd h (hl _), d12_10 := fun h => absurd h (hl _), d13_11 := fun h => absurd h (hl _) }
    · rintro l a w' ⟨v7, v8, v28, v29, v30, v31, v32, v33, v34, v35, v36, v37, rfl, F⟩ i hi h0 hall
      match i, hi, h0, hall with
      | 0, _, h0, hall =>
        have HF := Lib.hid (F.s0 h0)
        clear F hall h0
        refine wpOp_step (by rfl) (fun K' hK => ?_)
        have HKk := Lib.hid hK
        clear hK
        go_simp
        exact HKk.out _ _ ⟨_, _, _, _, _, _, _, _, _, _, _, _, rfl, HF.out⟩
      | 1, _, h0, hall =>
        obtain rfl := F.f0 (hall 0 (by decide +kernel))
        have x := HL.out.below F.bel
        have x0 : w'.cell? ⟨pL, 0, none⟩ = some (.int .i64 e1.op) := x.cell 0
        have x1 : w'.cell? ⟨pL, 1, none⟩ = some (.int .i64 e1.n) := x.cell 1
        have x2 : w'.cell? ⟨pL, 2, none⟩ = some (.string e1.s) := x.cell 2
        have x3 : w'.cell? ⟨pL, 3, none⟩ = some (.slice m1 e1.args.length n1) := x.cell 3
        have HF := Lib.hid (F.s1 h0)
        clear F hall h0
        refine wpOp_step (by rfl) (fun K' hK => ?_)
        have HKk := Lib.hid hK
        clear hK
        go_simp
        exact HKk.out _ _ ⟨_, _, _, _, _, _, _, _, _, _, _, _, rfl, HF.out⟩
      | 2, _, h0, hall =>
        obtain rfl := F.f1 (hall 1 (by decide +kernel))
        have HF := Lib.hid (F.s2 h0)
        clear F hall h0
        refine wpOp_step (by rfl) (fun K' hK => ?_)
        have HKk := Lib.hid hK
        clear hK
        go_simp
        exact HKk.out _ _ ⟨_, _, _, _, _, _, _, _, _, _, _, _, rfl, HF.out⟩
      | 3, _, h0, hall =>
        obtain rfl := F.f2 (hall 2 (by decide +kernel))
        have HF := Lib.hid (F.s3 h0)
        clear F hall h0
        refine wpOp_step (by rfl) (fun K' hK => ?_)
        have HKk := Lib.hid hK
        clear hK
        go_simp
        exact HKk.out _ _ ⟨_, _, _, _, _, _, _, _, _, _, _, _, rfl, HF.out⟩
      | 4, _, h0, hall =>
        have h3 := hall 3 (by decide +kernel)
        obtain ⟨g, rfl, _⟩ := F.f3 h3
        have HF := Lib.hid (F.s4 h0 h3)
        clear F hall h0
        refine wpOp_step (by rfl) (fun K' hK => ?_)
        have HKk := Lib.hid hK
        clear hK
        go_simp
        exact HKk.out _ _ ⟨_, _, _, _, _, _, _, _, _, _, _, _, rfl, HF.out⟩
      | 5, _, h0, hall =>
        have HF := Lib.hid (F.s5 h0)
        clear F hall h0
        refine wpOp_step (by rfl) (fun K' hK => ?_)
        have HKk := Lib.hid hK
        clear hK
        go_simp
        exact HKk.out _ _ ⟨_, _, _, _, _, _, _, _, _, _, _, _, rfl, HF.out⟩
      | 6, _, h0, hall =>
        obtain rfl := F.f5 (hall 5 (by decide +kernel))
        have x := HL.out.below F.bel
        have x0 : w'.cell? ⟨pL, 4, none⟩ = some (.int .i64 e2.op) := x.cell 4
        have x1 : w'.cell? ⟨pL, 5, none⟩ = some (.int .i64 e2.n) := x.cell 5
        have x2 : w'.cell? ⟨pL, 6, none⟩ = some (.string e2.s) := x.cell 6
        have x3 : w'.cell? ⟨pL, 7, none⟩ = some (.slice m2 e2.args.length n2) := x.cell 7
        have HF := Lib.hid (F.s6 h0)
        clear F hall h0
        refine wpOp_step (by rfl) (fun K' hK => ?_)
        have HKk := Lib.hid hK
        clear hK
        go_simp
        exact HKk.out _ _ ⟨_, _, _, _, _, _, _, _, _, _, _, _, rfl, HF.out⟩
      | 7, _, h0, hall =>
        obtain rfl := F.f6 (hall 6 (by decide +kernel))
        have HF := Lib.hid (F.s7 h0)
        clear F hall h0
        refine wpOp_step (by rfl) (fun K' hK => ?_)
        have HKk := Lib.hid hK
        clear hK
        go_simp
        exact HKk.out _ _ ⟨_, _, _, _, _, _, _, _, _, _, _, _, rfl, HF.out⟩
      | 8, _, h0, hall =>
        obtain rfl := F.f7 (hall 7 (by decide +kernel))
        have HF := Lib.hid (F.s8 h0)
        clear F hall h0
        refine wpOp_step (by rfl) (fun K' hK => ?_)
        have HKk := Lib.hid hK
        clear hK
        go_simp
        exact HKk.out _ _ ⟨_, _, _, _, _, _, _, _, _, _, _, _, rfl, HF.out⟩
      | 9, _, h0, hall =>
        have h8 := hall 8 (by decide +kernel)
        obtain ⟨g, rfl, _⟩ := F.f8 h8
        have HF := Lib.hid (F.s9 h0 h8)
        clear F hall h0
        refine wpOp_step (by rfl) (fun K' hK => ?_)
        have HKk := Lib.hid hK
        clear hK
        go_simp
        exact HKk.out _ _ ⟨_, _, _, _, _, _, _, _, _, _, _, _, rfl, HF.out⟩
      | 10, _, h0, hall =>
        have HF := Lib.hid (F.s10 h0)
        clear F hall h0
        refine wpOp_step (by rfl) (fun K' hK => ?_)
        have HKk := Lib.hid hK
        clear hK
        go_simp
        exact HKk.out _ _ ⟨_, _, _, _, _, _, _, _, _, _, _, _, rfl, HF.out⟩
      | 11, _, h0, hall =>
        have HF := Lib.hid (F.s11 h0)
        clear F hall h0
        refine wpOp_step (by rfl) (fun K' hK => ?_)
        have HKk := Lib.hid hK
        clear hK
        go_simp
        exact HKk.out _ _ ⟨_, _, _, _, _, _, _, _, _, _, _, _, rfl, HF.out⟩
      | 12, _, h0, hall =>
        have ha := hall 10 (by decide +kernel)
        have hv := hall 4 (by decide +kernel)
        have hs := F.d4_3 hv
        obtain ⟨gs, rfl, _⟩ := F.f3 hs
        obtain rfl := F.f4 hv
        obtain ⟨g, rfl, hz, hx, _⟩ := F.f10 ha
        have hg := hx (off_of h0)
        have x0 := hg.cell 0
        have x1 := hg.cell 1
        have x2 := hg.cell 2
        have y0 := hg.free 0
        have y1 := hg.free 1
        have y2 := hg.free 2
        simp at x0 x1 x2
        have HF := Lib.hid (F.s12 h0 hs ha hz hg)
        clear F hall h0
        refine wpOp_step (by rfl) (fun K' hK => ?_)
        have HKk := Lib.hid hK
        clear hK
        go_simp
        exact HKk.out _ _ ⟨_, _, _, _, _, _, _, _, _, _, _, _, rfl, HF.out⟩
      | 13, _, h0, hall =>
        have ha := hall 11 (by decide +kernel)
        have hv := hall 9 (by decide +kernel)
        have hs := F.d9_8 hv
        obtain ⟨gs, rfl, _⟩ := F.f8 hs
        obtain rfl := F.f9 hv
        obtain ⟨g, rfl, hz, hx, _⟩ := F.f11 ha
        have hg := hx (off_of h0)
        have x0 := hg.cell 0
        have x1 := hg.cell 1
        have x2 := hg.cell 2
        have y0 := hg.free 0
        have y1 := hg.free 1
        have y2 := hg.free 2
        simp at x0 x1 x2
        have HF := Lib.hid (F.s13 h0 hs ha hz hg)
        clear F hall h0
        refine wpOp_step (by rfl) (fun K' hK => ?_)
        have HKk := Lib.hid hK
        clear hK
        go_simp
        exact HKk.out _ _ ⟨_, _, _, _, _, _, _, _, _, _, _, _, rfl, HF.out⟩
      | i + 14, hi, _, _ => exact absurd hi (by show ¬ (i + 14 < 14); omega)
    rintro l a w5 ⟨v7, v8, v28, v29, v30, v31, v32, v33, v34, v35, v36, v37, rfl, F⟩ hall
    obtain ⟨g31, g36, g7, g8, rfl, rfl, rfl, rfl, rfl, rfl, rfl, rfl, rfl, rfl, rfl, rfl, hx7, hp7, hx8, hp8, hbW⟩ := F.done (fun j hj => hall j hj) HK1c.out HK2c.out
    have HB5 := Lib.hid (HBc.out.trans (hbW.mono HBc.out.size))
    have HT5 := Lib.hid (HTc.out.below hbW)
    have HL5 := Lib.hid (HL.out.below hbW)
    have HK15 := Lib.hid (HK1c.out.below hbW)
    have HK25 := Lib.hid (HK2c.out.below hbW)
    have HX7 := Lib.hid hx7
    have HX8 := Lib.hid hx8
    have HP7 := Lib.hid hp7
    have HP8 := Lib.hid hp8
    clear F hall hx7 hp7 hx8 hp8 hbW HBc HTc HL HK1c HK2c
    clear W2
    go_upto_region 4 with fail
    go_cut [60] from 38 to 60 (fun c wx => c = .bool false ∧ Hid (Below w5.heap.size w5 wx))
    case first =>
      have c0g := fun d os => cell_regrown (HL5.out.cell 0) d os
      have c1g := fun d os => cell_regrown (HL5.out.cell 1) d os
      have c2g := fun d os => cell_regrown (HL5.out.cell 2) d os
      have c3g := fun d os => cell_regrown (HL5.out.cell 3) d os
      have c4g := fun d os => cell_regrown (HL5.out.cell 4) d os
      have c5g := fun d os => cell_regrown (HL5.out.cell 5) d os
      have c6g := fun d os => cell_regrown (HL5.out.cell 6) d os
      have c7g := fun d os => cell_regrown (HL5.out.cell 7) d os
      have e0g := fun d os => cell_regrown (HX7.out.cell 0) d os
      have e1g := fun d os => cell_regrown (HX7.out.cell 1) d os
      have e2g := fun d os => cell_regrown (HX7.out.cell 2) d os
      have f0g := fun d os => cell_regrown (HX8.out.cell 0) d os
      have f1g := fun d os => cell_regrown (HX8.out.cell 1) d os
      have f2g := fun d os => cell_regrown (HX8.out.cell 2) d os
      have H1 := Lib.hid (fun (d : Nat) (os : Array Obj) => Calls.regrown_of (d := d) (os := os) (ovalidExpr_any e1 m1 n1 hk1 _ (HK15.out.below (below_regrown _ d os))))
      have H2 := Lib.hid (fun (d : Nat) (os : Array Obj) => Calls.regrown_of (d := d) (os := os) (ovalidExpr_any e2 m2 n2 hk2 _ (HK25.out.below (below_regrown _ d os))))
      have H3 := Lib.hid (fun (d : Nat) (os : Array Obj) => Calls.regrown_of (d := d) (os := os) (oexpr_any e1 m1 n1 hk1 _ (HT5.out.below (below_regrown _ d os)) (HK15.out.below (below_regrown _ d os))))
      have H4 := Lib.hid (fun (d : Nat) (os : Array Obj) => Calls.regrown_of (d := d) (os := os) (oexpr_any e2 m2 n2 hk2 _ (HT5.out.below (below_regrown _ d os)) (HK25.out.below (below_regrown _ d os))))
      have H5 : Hid (∀ (d : Nat) (os : Array Obj), Calls Tryd.prog 9 #[.agg #[.string ⟨#[]⟩, .slice none 0 0, .slice (some ⟨g31, 0, none⟩) 1 1], .agg #[.string ⟨#[]⟩, .slice none 0 0, .slice (some ⟨g36, 0, none⟩) 1 1]] (Sort.grow (redrawn w5 d) os) fun e' w'' => e' = .returned (.bool (eqP (exOf e1) (exOf e2))) ∧ ∃ p : Regrown, w'' = Sort.grow (redrawn w5 p.d) p.os) := fun (d : Nat) (os : Array Obj) => Calls.regrown_of (d := d) (os := os) (requal_any (exOf e1) (exOf e2) none (some ⟨g31, 0, none⟩) none (some ⟨g36, 0, none⟩) 0 1 0 1 (exOf_ok hk1) (exOf_ok hk2) _ (HP7.out.below (below_regrown _ d os)) (HP8.out.below (below_regrown _ d os)))
      unfold exV at H1 H2 H3 H4
      simp at c0g c1g c2g c3g c4g c5g c6g c7g e0g e1g e2g f0g f1g f2g
      by_cases hp : vE e1 1 = 0
      · rw [hp] at H1
        by_cases hq : vE e2 1 = 0
        · rw [hq] at H2
          have hE := eq_exprs hp hq hk1 hk2
          generalize eqP (exOf e1) (exOf e2) = b at H5 hE
          generalize ba (exprT e1) = U at H3 hE
          generalize ba (exprT e2) = V at H4 hE
          clear hp hq
          cases b
          · skip
            refine wp_region_quiet_below (by kernel_rfl) (by kernel_rfl) ?_
            repeat (go_big_quiet_step (with_reducible first | exact H1.out _ _ | exact H2.out _ _ | exact H3.out _ _ | exact H4.out _ _ | exact H5.out _ _))
            refine wpQuiet_nil ?_
            intro w4 hw'
            obtain ⟨⟨dq, osq⟩, hw2⟩ := hw'
            have hb4 := below_now hw2
            have HB4 := Lib.hid hb4
            clear hw2 hb4
            go_wp2_with fail
            go_meet
            case rel => exact ⟨rfl, HB4.out⟩
          · skip
            refine wp_region_quiet_below (by kernel_rfl) (by kernel_rfl) ?_
            repeat (go_big_quiet_step (with_reducible first | exact H1.out _ _ | exact H2.out _ _ | exact H3.out _ _ | exact H4.out _ _ | exact H5.out _ _))
            refine wpQuiet_nil ?_
            intro w4 hw'
            obtain ⟨⟨dq, osq⟩, hw2⟩ := hw'
            have hb4 := below_now hw2
            have HB4 := Lib.hid hb4
            clear hw2 hb4
            go_wp2_with fail
            go_meet
            case rel => exact ⟨rfl, HB4.out⟩
        · have bv : (vE e2 1 == 0) = false := by rw [beq_eq_false_iff_ne]; exact hq
          clear hp hq
          refine wp_region_quiet_below (by kernel_rfl) (by kernel_rfl) ?_
          repeat (go_big_quiet_step (with_reducible first | exact H1.out _ _ | exact H2.out _ _ | exact H3.out _ _ | exact H4.out _ _ | exact H5.out _ _))
          refine wpQuiet_nil ?_
          intro w4 hw'
          obtain ⟨⟨dq, osq⟩, hw2⟩ := hw'
          have hb4 := below_now hw2
          have HB4 := Lib.hid hb4
          clear hw2 hb4
          go_wp2_with fail
          go_meet
          case rel => exact ⟨rfl, HB4.out⟩
      · have bv : (vE e1 1 == 0) = false := by rw [beq_eq_false_iff_ne]; exact hp
        clear hp
        refine wp_region_quiet_below (by kernel_rfl) (by kernel_rfl) ?_
        repeat (go_big_quiet_step (with_reducible first | exact H1.out _ _ | exact H2.out _ _ | exact H3.out _ _ | exact H4.out _ _ | exact H5.out _ _))
        refine wpQuiet_nil ?_
        intro w4 hw'
        obtain ⟨⟨dq, osq⟩, hw2⟩ := hw'
        have hb4 := below_now hw2
        have HB4 := Lib.hid hb4
        clear hw2 hb4
        go_wp2_with fail
        go_meet
        case rel => exact ⟨rfl, HB4.out⟩
    case rest =>
      obtain ⟨rfl, HB6⟩ := hcut
      have HX := Lib.hid (examples_any wc (HT5.out.below HB6.out))
      have HB7 := Lib.hid (HB5.out.trans (HB6.out.mono HB5.out.size))
      clear HX7 HX8 HP7 HP8 HL5 HK15 HK25 HT5 HB5 HB6
      go_wp2_with fail
      refine HX.out.mono ?_; rintro e w7 ⟨rfl, hb7⟩
      have HB8 := Lib.hid (HB7.out.trans (hb7.mono HB7.out.size))
      clear hb7
      go_wp2_with fail
      go_ret
      exact ⟨rfl, HB8.out⟩
end Go.Proofs.YtbmdadhbkdkgmaaDoor.P
