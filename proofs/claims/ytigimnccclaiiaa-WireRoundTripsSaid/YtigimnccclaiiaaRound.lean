/-
  The law on round trips, walked.
-/
import Derived.Test.YtigimnccclaiiaaLimits
import Derived.Deep.DeepCutAuto
import Derived.Deep.QuietTactic
import Derived.BigQuiet
import Derived.Lib.QuietBelow
namespace Go.Proofs.Ytigimnccclaiiaa
open Go.RowKit
open Go.Lib (uvarint zigzag unzigzag)

theorem below_drewN {w w1 : World} (h : Below w.heap.size w w1) (k : Nat) : Below w.heap.size w (w1.drewN k) := ⟨h.os, h.tape, h.output, h.size, h.block⟩
set_option maxHeartbeats 4000000 in
set_option maxRecDepth 100000 in
theorem round_core (u n : Int) (b : Bool) (s t cu ci cb cx x : ByteArray) (k1 k2 k3 v k e i be bn xn xe : Int) (bv : Bool) (hs : s.size ≤ 300) (ht : t.size ≤ 2000)
    (z1 : cu.size ≤ 10) (z2 : ci.size ≤ 10) (z3 : cb.size ≤ 10) (z4 : cx.size ≤ 310) (hcat : cu ++ ci ++ cb ++ cx ++ s = t) (hb : decide (n < 0) = b) (w : World)
    (h1 : ∀ w, Calls Try.prog 12 #[.int .u64 u] w fun r w' => r = .returned (.string cu) ∧ Below w.heap.size w w')
    (h2 : ∀ w, Calls Try.prog 14 #[.int .i64 n] w fun r w' => r = .returned (.string ci) ∧ Below w.heap.size w w')
    (h3 : ∀ w, Calls Try.prog 16 #[.bool b] w fun r w' => r = .returned (.string cb) ∧ w = w')
    (h4 : ∀ w, Calls Try.prog 18 #[.string s] w fun r w' => r = .returned (.string cx) ∧ Below w.heap.size w w')
    (h5 : ∀ w, Calls Try.prog 20 #[.string t, .int .i64 0] w fun r w' => r = .returned (.tuple #[.int .u64 u, .int .i64 k1, .int .i64 0]) ∧ w = w')
    (h6 : ∀ w, Calls Try.prog 22 #[.string t, .int .i64 k1] w fun r w' => r = .returned (.tuple #[.int .i64 n, .int .i64 k2, .int .i64 0]) ∧ w = w')
    (h7 : ∀ w, Calls Try.prog 24 #[.string t, .int .i64 k2] w fun r w' => r = .returned (.tuple #[.bool b, .int .i64 k3, .int .i64 0]) ∧ w = w')
    (h8 : ∀ w, Calls Try.prog 26 #[.string t, .int .i64 k3, .int .i64 s.size] w fun r w' => r = .returned (.tuple #[.string s, .int .i64 ((t.size : Int) - s.size), .int .i64 0]) ∧ Below w.heap.size w w')
    (g1 : ∀ w, Calls Try.prog 20 #[.string s, .int .i64 0] w fun r w' => r = .returned (.tuple #[.int .u64 v, .int .i64 k, .int .i64 e]) ∧ w = w')
    (g2 : ∀ w, Calls Try.prog 22 #[.string s, .int .i64 0] w fun r w' => r = .returned (.tuple #[.int .i64 i, .int .i64 k, .int .i64 e]) ∧ w = w')
    (g3 : ∀ w, Calls Try.prog 24 #[.string s, .int .i64 0] w fun r w' => r = .returned (.tuple #[.bool bv, .int .i64 bn, .int .i64 be]) ∧ w = w')
    (g4 : ∀ w, Calls Try.prog 26 #[.string s, .int .i64 0, .int .i64 300] w fun r w' => r = .returned (.tuple #[.string x, .int .i64 xn, .int .i64 xe]) ∧ Below w.heap.size w w')
    (hA : (e = 0 ∧ ∃ (c : Nat) (p : ByteArray), k = c ∧ 1 ≤ (c : Int) ∧ (c : Int) ≤ s.size ∧ (∀ W, (Instr.slice 9 (.string s) none (some (.int .i64 (c : Int))) none).run Try.prog W = .ok (.string p) W) ∧
        (∀ w, Calls Try.prog 12 #[.int .u64 v] w fun r w' => r = .returned (.string p) ∧ Below w.heap.size w w') ∧
        (∀ w, Calls Try.prog 14 #[.int .i64 i] w fun r w' => r = .returned (.string p) ∧ Below w.heap.size w w')) ∨ e = 5 ∨ e = 6)
    (hB : (be = 0 ∧ ∃ p : ByteArray, bn = 1 ∧ (∀ W, (Instr.slice 9 (.string s) none (some (.int .i64 1)) none).run Try.prog W = .ok (.string p) W) ∧
        (∀ w, Calls Try.prog 16 #[.bool bv] w fun r w' => r = .returned (.string p) ∧ w = w')) ∨ be = 5 ∨ be = 6)
    (hC : (xe = 0 ∧ ∃ (c : Nat) (p : ByteArray), xn = c ∧ 1 ≤ (c : Int) ∧ (c : Int) ≤ s.size ∧ (∀ W, (Instr.slice 9 (.string s) none (some (.int .i64 (c : Int))) none).run Try.prog W = .ok (.string p) W) ∧
        (∀ w, Calls Try.prog 18 #[.string x] w fun r w' => r = .returned (.string p) ∧ Below w.heap.size w w')) ∨ xe = 2 ∨ xe = 5 ∨ xe = 6) :
    Calls Try.prog 6 #[.int .u64 u, .int .i64 n, .string s] w fun e w' => e = .returned (.bool true) ∧ Below w.heap.size w w' := by
  have H1 := Lib.hid h1
  have H2 := Lib.hid h2
  have H3 := Lib.hid h3
  have H4 := Lib.hid h4
  have H5 := Lib.hid h5
  have H6 := Lib.hid h6
  have H7 := Lib.hid h7
  have H8 := Lib.hid h8
  have G1 := Lib.hid g1
  have G2 := Lib.hid g2
  have G3 := Lib.hid g3
  have G4 := Lib.hid g4
  have HB := Lib.hid hB
  have HC := Lib.hid hC
  clear h1 h2 h3 h4 h5 h6 h7 h8 g1 g2 g3 g4 hB hC
  go_enter Try.func6, Try.ntmps6
  go_wp2_with (first
    | (go_at_call 12; with_reducible refine (H1.out _).mono ?_; rintro r w1 ⟨rfl, hb1⟩)
    | (go_at_call 14; with_reducible refine (H2.out _).mono ?_; rintro r w2 ⟨rfl, hb2⟩)
    | (go_at_call 16; with_reducible refine (H3.out _).mono ?_; rintro r w' ⟨rfl, rfl⟩)
    | (go_at_call 18; with_reducible refine (H4.out _).mono ?_; rintro r w3 ⟨rfl, hb3⟩))
  clear hcat
  with_reducible refine (H5.out _).mono ?_
  rintro r w' ⟨rfl, rfl⟩
  go_wp2_with fail
  with_reducible refine (H6.out _).mono ?_
  rintro r w' ⟨rfl, rfl⟩
  go_wp2_with fail
  with_reducible refine (H7.out _).mono ?_
  rintro r w' ⟨rfl, rfl⟩
  go_wp2_with fail
  with_reducible refine (H8.out _).mono ?_
  rintro r w4 ⟨rfl, hb4⟩
  go_wp2_with fail
  with_reducible refine (G1.out _).mono ?_
  rintro r w' ⟨rfl, rfl⟩
  have Q4 : Below w.heap.size w w4 := below_2 (below_2 (below_2 hb1 hb2) hb3) hb4
  clear hb1 hb2 hb3 hb4 H1 H2 H3 H4 H5 H6 H7 H8 hb z1 z2 z3 z4
  have HA := Lib.hid hA
  clear hA
  go_upto_region 11 with fail
  go_cut [136] (fun b wx => b = .bool false ∧ Below w.heap.size w wx)
  case first =>
    rcases HA.out with ⟨rfl, c, p, rfl, c1, c2, hsl, a1, a2⟩ | rfl | rfl
    · have A1 := Lib.hid (fun W d os => Calls.regrown_of (w := W) (d := d) (os := os) (a1 _))
      have d1 : decide ((c : Int) < 1) = false := decide_eq_false (by omega)
      have d2 : decide (s.size < c) = false := decide_eq_false (by omega)
      have d3 : decide ((s.size : Int) < (c : Int)) = false := decide_eq_false (by omega)
      clear a1 a2
      refine wp_region_quiet_below (by kernel_rfl) (by kernel_rfl) ?_
      repeat (go_big_quiet_step (exact A1.out _ _ _))
      refine wpQuiet_nil ?_
      intro _ hw'
      obtain ⟨⟨dq, osq⟩, hw''⟩ := hw'
      subst hw''
      go_wp2_with fail
      go_meet
      case rel => exact ⟨rfl, below_2 Q4 (below_regrown _ _ _)⟩
    all_goals
      refine wp_region_quiet_below (by kernel_rfl) (by kernel_rfl) ?_
      repeat (go_big_quiet_step (fail))
      refine wpQuiet_nil ?_
      intro _ hw'
      obtain ⟨⟨dq, osq⟩, hw''⟩ := hw'
      subst hw''
      go_wp2_with fail
      go_meet
      case rel => exact ⟨rfl, below_2 Q4 (below_regrown _ _ _)⟩
  case rest =>
    clear Q4
    obtain ⟨rfl, Q4⟩ := hcut
    go_wp2_with fail
    with_reducible refine (G2.out _).mono ?_
    rintro r w' ⟨rfl, rfl⟩
    go_upto_region 14 with fail
    go_cut [162] (fun b wx => b = .bool false ∧ Below w.heap.size w wx)
    case first =>
      rcases HA.out with ⟨rfl, c, p, rfl, c1, c2, hsl, a1, a2⟩ | rfl | rfl
      · have A2 := Lib.hid (fun W d os => Calls.regrown_of (w := W) (d := d) (os := os) (a2 _))
        have d1 : decide ((c : Int) < 1) = false := decide_eq_false (by omega)
        have d2 : decide (s.size < c) = false := decide_eq_false (by omega)
        have d3 : decide ((s.size : Int) < (c : Int)) = false := decide_eq_false (by omega)
        clear a1 a2
        refine wp_region_quiet_below (by kernel_rfl) (by kernel_rfl) ?_
        repeat (go_big_quiet_step (exact A2.out _ _ _))
        refine wpQuiet_nil ?_
        intro _ hw'
        obtain ⟨⟨dq, osq⟩, hw''⟩ := hw'
        subst hw''
        go_wp2_with fail
        go_meet
        case rel => exact ⟨rfl, below_2 Q4 (below_regrown _ _ _)⟩
      all_goals
        refine wp_region_quiet_below (by kernel_rfl) (by kernel_rfl) ?_
        repeat (go_big_quiet_step (fail))
        refine wpQuiet_nil ?_
        intro _ hw'
        obtain ⟨⟨dq, osq⟩, hw''⟩ := hw'
        subst hw''
        go_wp2_with fail
        go_meet
        case rel => exact ⟨rfl, below_2 Q4 (below_regrown _ _ _)⟩
    case rest =>
      clear Q4
      obtain ⟨rfl, Q4⟩ := hcut
      go_wp2_with fail
      with_reducible refine (G3.out _).mono ?_
      rintro r w' ⟨rfl, rfl⟩
      go_upto_region 17 with fail
      go_cut [181] (fun b wx => b = .bool false ∧ Below w.heap.size w wx)
      case first =>
        rcases HB.out with ⟨rfl, p, rfl, hsl, a1⟩ | rfl | rfl
        · have A1 := Lib.hid (fun W d os => Calls.regrown_of (w := W) (d := d) (os := os) ((a1 _).mono fun _ _ h => ⟨h.1, h.2 ▸ Below.refl _ _⟩))
          clear a1
          refine wp_region_quiet_below (by kernel_rfl) (by kernel_rfl) ?_
          repeat (go_big_quiet_step (exact A1.out _ _ _))
          refine wpQuiet_nil ?_
          intro _ hw'
          obtain ⟨⟨dq, osq⟩, hw''⟩ := hw'
          subst hw''
          go_wp2_with fail
          go_meet
          case rel => exact ⟨rfl, below_2 Q4 (below_regrown _ _ _)⟩
        all_goals
          refine wp_region_quiet_below (by kernel_rfl) (by kernel_rfl) ?_
          repeat (go_big_quiet_step (fail))
          refine wpQuiet_nil ?_
          intro _ hw'
          obtain ⟨⟨dq, osq⟩, hw''⟩ := hw'
          subst hw''
          go_wp2_with fail
          go_meet
          case rel => exact ⟨rfl, below_2 Q4 (below_regrown _ _ _)⟩
      case rest =>
        clear Q4
        obtain ⟨rfl, Q4⟩ := hcut
        go_wp2_with fail
        with_reducible refine (G4.out _).mono ?_
        rintro r w6 ⟨rfl, hb6⟩
        replace Q4 := below_2 Q4 hb6
        clear hb6
        have LV := Lib.hid (fun W d os => Calls.regrown_of (w := W) (d := d) (os := os) (lives_any _))
        go_upto_region 20 with fail
        rcases HC.out with ⟨rfl, c, p, rfl, c1, c2, hsl, a1⟩ | rfl | rfl | rfl
        · have A1 := Lib.hid (fun W d os => Calls.regrown_of (w := W) (d := d) (os := os) (a1 _))
          have d1 : decide (1 ≤ (c : Int)) = true := decide_eq_true (by omega)
          have d2 : decide (c ≤ s.size) = true := decide_eq_true (by omega)
          have d3 : decide ((c : Int) ≤ (s.size : Int)) = true := decide_eq_true (by omega)
          clear a1
          refine wp_region_quiet_below (by kernel_rfl) (by kernel_rfl) ?_
          repeat (go_big_quiet_step (first | exact A1.out _ _ _ | exact LV.out _ _ _))
          refine wpQuiet_nil ?_
          intro _ hw'
          obtain ⟨⟨dq, osq⟩, hw''⟩ := hw'
          subst hw''
          go_wp2_with fail
          go_ret
          exact ⟨rfl, below_2 Q4 (below_regrown _ _ _)⟩
        all_goals
          refine wp_region_quiet_below (by kernel_rfl) (by kernel_rfl) ?_
          repeat (go_big_quiet_step (exact LV.out _ _ _))
          refine wpQuiet_nil ?_
          intro _ hw'
          obtain ⟨⟨dq, osq⟩, hw''⟩ := hw'
          subst hw''
          go_wp2_with fail
          go_ret
          exact ⟨rfl, below_2 Q4 (below_regrown _ _ _)⟩
end Go.Proofs.Ytigimnccclaiiaa
