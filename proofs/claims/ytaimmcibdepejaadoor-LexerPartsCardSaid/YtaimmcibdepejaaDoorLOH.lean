/-
  What the program's own textOf of layer 7 returns.
-/
import Derived.Test.YtaimmcibdepejaaDoorLOG
import Derived.Lib.SmallJoins
namespace Go.Proofs.YtaimmcibdepejaaDoor.L
open Go.RowKit

def Tab (w : World) : Prop := Lib.TabIs Tryd.prog w "internal/strconv.uint64pow10" .u64 Lib.pow10Tab
theorem gPow7 : Tryd.prog.globalNamed "internal/strconv.uint64pow10" = some 1 := by kernel_rfl
theorem Tab.below {w w' : World} (h : Tab w) (hb : Below w.heap.size w w') : Tab w' := Joins.tab_stays gPow7 h hb (Nat.le_refl _)
/-- a token's text, and whether the token is valid -/
def GivesP (e : Ending) (p : T) : Prop := ∃ (d : ByteArray) (b : Bool), e = .returned (.tuple #[.string d, .bool b]) ∧ b = valid p.tok ∧ (b = true → d.data.toList = txt p.tok)
theorem GivesP.no {e : Ending} {p : T} (d : ByteArray) (h : valid p.tok = false) (he : e = .returned (.tuple #[.string d, .bool false])) : GivesP e p := ⟨d, false, he, h.symm, fun h => by cases h⟩
theorem GivesP.yes {e : Ending} {p : T} (d : ByteArray) (h : valid p.tok = true) (ht : d.data.toList = txt p.tok) (he : e = .returned (.tuple #[.string d, .bool true])) : GivesP e p := ⟨d, true, he, h.symm, fun _ => ht⟩
set_option maxHeartbeats 4000000 in
set_option maxRecDepth 100000 in
theorem otext_any (p : T) (hs : p.t.size ≤ 1000000000000000) (h0 : -9223372036854775808 ≤ p.n) (h1 : p.n ≤ 9223372036854775807) (w : World) (hT : Tab w) :
    Calls Tryd.prog 25 #[.agg #[.int .i64 p.k, .string p.t, .int .i64 p.n, .int .i64 p.line]] w fun e w' => GivesP e p ∧ Below w.heap.size w w' := by
  have HW := Lib.hid (below_box w (.cells #[.int .i64 p.k, .string p.t, .int .i64 p.n, .int .i64 p.line] 31))
  have HAT := Lib.hid (at_box w p)
  have hT2 := hT.below HW.out
  have HTW := Lib.hid hT2
  clear hT hT2
  obtain ⟨c0, c1, c2, c3⟩ := (at_box w p).grown
  simp only [Nat.zero_add] at c0 c1 c2 c3
  by_cases k1 : p.k = 1
  · have b1 : (p.k == 1) = true := beq_iff_eq.2 k1
    have HX := Lib.hid (txt_o (t := p.tok) (by show ¬ p.k = 3; omega) (by show ¬ p.k = 4; omega))
    have hv := v_1 k1
    have hcc := fun w => oname_any p.t w
    generalize isName p.t.data.toList = I at hv hcc
    by_cases hn : p.n = 0
    · have bn : (p.n == 0) = true := beq_iff_eq.2 hn
      rw [bn, Bool.and_true] at hv
      have HV := Lib.hid hv
      cases I
      all_goals
        have HC := Lib.hid (grownW (W := w.alloc (.cells #[.int .i64 p.k, .string p.t, .int .i64 p.n, .int .i64 p.line] 31)) hcc)
        clear hcc hv hn  k1
        go_enter Tryd.func25, Tryd.ntmps25
        go_wp2_with fail
        refine wp_region_quiet_below (by kernel_rfl) (by kernel_rfl) ?_
        repeat (go_big_quiet_step (with_reducible exact HC.out _ _))
        refine wpQuiet_nil ?_
        intro w4 hw'
        obtain ⟨⟨dq, osq⟩, hw2⟩ := hw'
        have hb4 := below_regrown (w.alloc (.cells #[.int .i64 p.k, .string p.t, .int .i64 p.n, .int .i64 p.line] 31)) dq osq
        rw [← hw2] at hb4
        have HB4 := Lib.hid (below_2 HW.out hb4)
        clear hw2 hb4
        go_wp2_with fail
        go_ret2
        first
          | exact ⟨GivesP.no p.t HV.out rfl, HB4.out⟩
          | exact ⟨GivesP.yes p.t HV.out HX.out.symm rfl, HB4.out⟩
    · have bn : (p.n == 0) = false := beq_eq_false_iff_ne.2 hn
      rw [bn, Bool.and_false] at hv
      have HV := Lib.hid hv
      have HC := Lib.hid (grownW (W := w.alloc (.cells #[.int .i64 p.k, .string p.t, .int .i64 p.n, .int .i64 p.line] 31)) hcc)
      clear hcc hv hn  k1
      go_enter Tryd.func25, Tryd.ntmps25
      go_wp2_with fail
      refine wp_region_quiet_below (by kernel_rfl) (by kernel_rfl) ?_
      repeat (go_big_quiet_step (with_reducible exact HC.out _ _))
      refine wpQuiet_nil ?_
      intro w4 hw'
      obtain ⟨⟨dq, osq⟩, hw2⟩ := hw'
      have hb4 := below_regrown (w.alloc (.cells #[.int .i64 p.k, .string p.t, .int .i64 p.n, .int .i64 p.line] 31)) dq osq
      rw [← hw2] at hb4
      have HB4 := Lib.hid (below_2 HW.out hb4)
      clear hw2 hb4
      go_wp2_with fail
      go_ret2
      exact ⟨GivesP.no p.t HV.out rfl, HB4.out⟩
  have b1 : (p.k == 1) = false := beq_eq_false_iff_ne.2 k1
  by_cases k2 : p.k = 2
  · have b2 : (p.k == 2) = true := beq_iff_eq.2 k2
    have HX := Lib.hid (txt_o (t := p.tok) (by show ¬ p.k = 3; omega) (by show ¬ p.k = 4; omega))
    have hv := v_2 k2
    have hcc := fun w => oisKw_any p.t w
    generalize isKw p.t.data.toList = I at hv hcc
    by_cases hn : p.n = 0
    · have bn : (p.n == 0) = true := beq_iff_eq.2 hn
      rw [bn, Bool.and_true] at hv
      have HV := Lib.hid hv
      cases I
      all_goals
        have HC := Lib.hid (grownS (W := w.alloc (.cells #[.int .i64 p.k, .string p.t, .int .i64 p.n, .int .i64 p.line] 31)) hcc)
        clear hcc hv hn k1 k2
        go_enter Tryd.func25, Tryd.ntmps25
        go_wp2_with fail
        refine wp_region_quiet_below (by kernel_rfl) (by kernel_rfl) ?_
        repeat (go_big_quiet_step (with_reducible exact HC.out _ _))
        refine wpQuiet_nil ?_
        intro w4 hw'
        obtain ⟨⟨dq, osq⟩, hw2⟩ := hw'
        have hb4 := below_regrown (w.alloc (.cells #[.int .i64 p.k, .string p.t, .int .i64 p.n, .int .i64 p.line] 31)) dq osq
        rw [← hw2] at hb4
        have HB4 := Lib.hid (below_2 HW.out hb4)
        clear hw2 hb4
        go_wp2_with fail
        go_ret2
        first
          | exact ⟨GivesP.no p.t HV.out rfl, HB4.out⟩
          | exact ⟨GivesP.yes p.t HV.out HX.out.symm rfl, HB4.out⟩
    · have bn : (p.n == 0) = false := beq_eq_false_iff_ne.2 hn
      rw [bn, Bool.and_false] at hv
      have HV := Lib.hid hv
      have HC := Lib.hid (grownS (W := w.alloc (.cells #[.int .i64 p.k, .string p.t, .int .i64 p.n, .int .i64 p.line] 31)) hcc)
      clear hcc hv hn k1 k2
      go_enter Tryd.func25, Tryd.ntmps25
      go_wp2_with fail
      refine wp_region_quiet_below (by kernel_rfl) (by kernel_rfl) ?_
      repeat (go_big_quiet_step (with_reducible exact HC.out _ _))
      refine wpQuiet_nil ?_
      intro w4 hw'
      obtain ⟨⟨dq, osq⟩, hw2⟩ := hw'
      have hb4 := below_regrown (w.alloc (.cells #[.int .i64 p.k, .string p.t, .int .i64 p.n, .int .i64 p.line] 31)) dq osq
      rw [← hw2] at hb4
      have HB4 := Lib.hid (below_2 HW.out hb4)
      clear hw2 hb4
      go_wp2_with fail
      go_ret2
      exact ⟨GivesP.no p.t HV.out rfl, HB4.out⟩
  have b2 : (p.k == 2) = false := beq_eq_false_iff_ne.2 k2
  by_cases k3 : p.k = 3
  · have b3 : (p.k == 3) = true := beq_iff_eq.2 k3
    have HX := Lib.hid (txt_3 (t := p.tok) k3)
    have hv := v_3 k3
    have HC := Lib.hid (fun d os => Calls.regrown_of (d := d) (os := os) (format_any p.n h0 h1 _ (HTW.out.below (below_regrown (w.alloc (.cells #[.int .i64 p.k, .string p.t, .int .i64 p.n, .int .i64 p.line] 31)) d os))))
    have hI : p.t.toList.isEmpty = (p.t.toList == []) := by cases p.t.toList <;> rfl
    generalize (p.t.toList == []) = I at hv hI
    by_cases hn : 0 ≤ p.n
    · rw [decide_eq_true hn, Bool.and_true] at hv
      have bn : decide (0 ≤ p.n) = true := decide_eq_true hn
      have HV := Lib.hid hv
      cases I
      all_goals
        clear hv k1 k2 k3 hn
        go_enter Tryd.func25, Tryd.ntmps25
        go_wp2_with fail
        refine wp_region_quiet_below (by kernel_rfl) (by kernel_rfl) ?_
        repeat (go_big_quiet_step (with_reducible exact HC.out _ _))
        refine wpQuiet_nil ?_
        intro w4 hw'
        obtain ⟨⟨dq, osq⟩, hw2⟩ := hw'
        have hb4 := below_regrown (w.alloc (.cells #[.int .i64 p.k, .string p.t, .int .i64 p.n, .int .i64 p.line] 31)) dq osq
        rw [← hw2] at hb4
        have HB4 := Lib.hid (below_2 HW.out hb4)
        clear hw2 hb4
        go_wp2_with fail
        go_ret2
        first
          | exact ⟨GivesP.no _ HV.out rfl, HB4.out⟩
          | exact ⟨GivesP.yes _ HV.out HX.out.symm rfl, HB4.out⟩
    · rw [decide_eq_false hn, Bool.and_false] at hv
      have bn : decide (0 ≤ p.n) = false := decide_eq_false hn
      have HV := Lib.hid hv
      clear hv k1 k2 k3 hn
      go_enter Tryd.func25, Tryd.ntmps25
      go_wp2_with fail
      refine wp_region_quiet_below (by kernel_rfl) (by kernel_rfl) ?_
      repeat (go_big_quiet_step (with_reducible exact HC.out _ _))
      refine wpQuiet_nil ?_
      intro w4 hw'
      obtain ⟨⟨dq, osq⟩, hw2⟩ := hw'
      have hb4 := below_regrown (w.alloc (.cells #[.int .i64 p.k, .string p.t, .int .i64 p.n, .int .i64 p.line] 31)) dq osq
      rw [← hw2] at hb4
      have HB4 := Lib.hid (below_2 HW.out hb4)
      clear hw2 hb4
      go_wp2_with fail
      go_ret2
      exact ⟨GivesP.no _ HV.out rfl, HB4.out⟩
  have b3 : (p.k == 3) = false := beq_eq_false_iff_ne.2 k3
  by_cases k4 : p.k = 4
  · have b4 : (p.k == 4) = true := beq_iff_eq.2 k4
    have HX := Lib.hid (txt_4 (t := p.tok) k4)
    have hv := v_4 k4
    have hq := fun w => oquote_any p.t w
    by_cases h64 : 64 < p.t.size
    · rw [qt_long h64] at hq
      rw [decide_eq_false (by omega), Bool.false_and, Bool.false_and] at hv
      by_cases hn : p.n = 0
      · have bn : (p.n == 0) = true := beq_iff_eq.2 hn
        have HV := Lib.hid hv
        have HQ := Lib.hid hq
        clear hv hq k1 k2 k3 k4 hn
        go_enter Tryd.func25, Tryd.ntmps25
        go_wp2_with fail
        refine (HQ.out _).mono ?_; rintro e w2 ⟨rfl, hb2⟩
        obtain ⟨d0, d1, d2, d3⟩ := HAT.out.below hb2 HAT.out.lt
        simp only [Nat.zero_add] at d0 d1 d2 d3
        have HB4 := Lib.hid (below_2 HW.out hb2)
        simp only [pairS]
        go_wp2_with fail
        go_ret2
        exact ⟨GivesP.no _ HV.out rfl, HB4.out⟩
      · have bn : (p.n == 0) = false := beq_eq_false_iff_ne.2 hn
        have HV := Lib.hid hv
        have HQ := Lib.hid hq
        clear hv hq k1 k2 k3 k4 hn
        go_enter Tryd.func25, Tryd.ntmps25
        go_wp2_with fail
        refine (HQ.out _).mono ?_; rintro e w2 ⟨rfl, hb2⟩
        obtain ⟨d0, d1, d2, d3⟩ := HAT.out.below hb2 HAT.out.lt
        simp only [Nat.zero_add] at d0 d1 d2 d3
        have HB4 := Lib.hid (below_2 HW.out hb2)
        simp only [pairS]
        go_wp2_with fail
        go_ret2
        exact ⟨GivesP.no _ HV.out rfl, HB4.out⟩
    · cases hok : p.t.data.toList.all prt
      · rw [qt_bad h64 hok] at hq
        rw [hok, Bool.and_false, Bool.false_and] at hv
        by_cases hn : p.n = 0
        · have bn : (p.n == 0) = true := beq_iff_eq.2 hn
          have HV := Lib.hid hv
          have HQ := Lib.hid hq
          clear hv hq k1 k2 k3 k4 hn
          go_enter Tryd.func25, Tryd.ntmps25
          go_wp2_with fail
          refine (HQ.out _).mono ?_; rintro e w2 ⟨rfl, hb2⟩
          obtain ⟨d0, d1, d2, d3⟩ := HAT.out.below hb2 HAT.out.lt
          simp only [Nat.zero_add] at d0 d1 d2 d3
          have HB4 := Lib.hid (below_2 HW.out hb2)
          simp only [pairS]
          go_wp2_with fail
          go_ret2
          exact ⟨GivesP.no _ HV.out rfl, HB4.out⟩
        · have bn : (p.n == 0) = false := beq_eq_false_iff_ne.2 hn
          have HV := Lib.hid hv
          have HQ := Lib.hid hq
          clear hv hq k1 k2 k3 k4 hn
          go_enter Tryd.func25, Tryd.ntmps25
          go_wp2_with fail
          refine (HQ.out _).mono ?_; rintro e w2 ⟨rfl, hb2⟩
          obtain ⟨d0, d1, d2, d3⟩ := HAT.out.below hb2 HAT.out.lt
          simp only [Nat.zero_add] at d0 d1 d2 d3
          have HB4 := Lib.hid (below_2 HW.out hb2)
          simp only [pairS]
          go_wp2_with fail
          go_ret2
          exact ⟨GivesP.no _ HV.out rfl, HB4.out⟩
      · rw [qt_ok h64 hok] at hq
        rw [hok, decide_eq_true (by omega), Bool.true_and, Bool.true_and] at hv
        by_cases hn : p.n = 0
        · have bn : (p.n == 0) = true := beq_iff_eq.2 hn
          rw [bn] at hv
          have HV := Lib.hid hv
          have HQ := Lib.hid hq
          clear hv hq k1 k2 k3 k4 hn
          go_enter Tryd.func25, Tryd.ntmps25
          go_wp2_with fail
          refine (HQ.out _).mono ?_; rintro e w2 ⟨rfl, hb2⟩
          obtain ⟨d0, d1, d2, d3⟩ := HAT.out.below hb2 HAT.out.lt
          simp only [Nat.zero_add] at d0 d1 d2 d3
          have HB4 := Lib.hid (below_2 HW.out hb2)
          simp only [pairS]
          go_wp2_with fail
          go_ret2
          exact ⟨GivesP.yes _ HV.out HX.out.symm rfl, HB4.out⟩
        · have bn : (p.n == 0) = false := beq_eq_false_iff_ne.2 hn
          rw [bn] at hv
          have HV := Lib.hid hv
          have HQ := Lib.hid hq
          clear hv hq k1 k2 k3 k4 hn
          go_enter Tryd.func25, Tryd.ntmps25
          go_wp2_with fail
          refine (HQ.out _).mono ?_; rintro e w2 ⟨rfl, hb2⟩
          obtain ⟨d0, d1, d2, d3⟩ := HAT.out.below hb2 HAT.out.lt
          simp only [Nat.zero_add] at d0 d1 d2 d3
          have HB4 := Lib.hid (below_2 HW.out hb2)
          simp only [pairS]
          go_wp2_with fail
          go_ret2
          exact ⟨GivesP.no _ HV.out rfl, HB4.out⟩
  have b4 : (p.k == 4) = false := beq_eq_false_iff_ne.2 k4
  by_cases k5 : p.k = 5
  · have b5 : (p.k == 5) = true := beq_iff_eq.2 k5
    have HX := Lib.hid (txt_o (t := p.tok) (by show ¬ p.k = 3; omega) (by show ¬ p.k = 4; omega))
    have hv := v_5 k5
    have hcc := fun w => oisMark_any p.t w
    generalize isMark p.t.data.toList = I at hv hcc
    by_cases hn : p.n = 0
    · have bn : (p.n == 0) = true := beq_iff_eq.2 hn
      rw [bn, Bool.and_true] at hv
      have HV := Lib.hid hv
      cases I
      all_goals
        have HC := Lib.hid (grownS (W := w.alloc (.cells #[.int .i64 p.k, .string p.t, .int .i64 p.n, .int .i64 p.line] 31)) hcc)
        clear hcc hv hn k1 k2 k3 k4 k5
        go_enter Tryd.func25, Tryd.ntmps25
        go_wp2_with fail
        refine wp_region_quiet_below (by kernel_rfl) (by kernel_rfl) ?_
        repeat (go_big_quiet_step (with_reducible exact HC.out _ _))
        refine wpQuiet_nil ?_
        intro w4 hw'
        obtain ⟨⟨dq, osq⟩, hw2⟩ := hw'
        have hb4 := below_regrown (w.alloc (.cells #[.int .i64 p.k, .string p.t, .int .i64 p.n, .int .i64 p.line] 31)) dq osq
        rw [← hw2] at hb4
        have HB4 := Lib.hid (below_2 HW.out hb4)
        clear hw2 hb4
        go_wp2_with fail
        go_ret2
        first
          | exact ⟨GivesP.no p.t HV.out rfl, HB4.out⟩
          | exact ⟨GivesP.yes p.t HV.out HX.out.symm rfl, HB4.out⟩
    · have bn : (p.n == 0) = false := beq_eq_false_iff_ne.2 hn
      rw [bn, Bool.and_false] at hv
      have HV := Lib.hid hv
      have HC := Lib.hid (grownS (W := w.alloc (.cells #[.int .i64 p.k, .string p.t, .int .i64 p.n, .int .i64 p.line] 31)) hcc)
      clear hcc hv hn k1 k2 k3 k4 k5
      go_enter Tryd.func25, Tryd.ntmps25
      go_wp2_with fail
      refine wp_region_quiet_below (by kernel_rfl) (by kernel_rfl) ?_
      repeat (go_big_quiet_step (with_reducible exact HC.out _ _))
      refine wpQuiet_nil ?_
      intro w4 hw'
      obtain ⟨⟨dq, osq⟩, hw2⟩ := hw'
      have hb4 := below_regrown (w.alloc (.cells #[.int .i64 p.k, .string p.t, .int .i64 p.n, .int .i64 p.line] 31)) dq osq
      rw [← hw2] at hb4
      have HB4 := Lib.hid (below_2 HW.out hb4)
      clear hw2 hb4
      go_wp2_with fail
      go_ret2
      exact ⟨GivesP.no p.t HV.out rfl, HB4.out⟩
  have b5 : (p.k == 5) = false := beq_eq_false_iff_ne.2 k5
  have HV := Lib.hid (v_0 k1 k2 k3 k4 k5)
  clear k1 k2 k3 k4 k5
  go_enter Tryd.func25, Tryd.ntmps25
  go_wp2_with fail
  go_ret2
  exact ⟨GivesP.no _ HV.out rfl, HW.out⟩
end Go.Proofs.YtaimmcibdepejaaDoor.L
