/-
  What the reference of layer 8 returns: valid, ValidExpr, countExpr: contracts by induction on the tree.
  What the reference of layer 8 returns: countExpr, SmallExpr, EqualExpr: contracts by induction on the tree.
  What the reference of layer 8 returns: EqualExpr: its contract, by induction on the tree.
  What the reference of layer 8 returns: countBody, Small: contracts.
  What the reference of layer 8 returns: Small: its contract.
-/
import Derived.Test.YtbmdadhbkdkgmaaDoorARefsB
import Derived.Test.YtbmdadhbkdkgmaaDoorGA
namespace Go.Proofs.YtbmdadhbkdkgmaaDoor.A
open Go.RowKit
open L (Str isName prt size_len below_2 below_box ret_bool ret_int)

theorem drop_ex {l : List Ex} {k : Nat} (h : k < l.length) : l.drop k = l[k] :: l.drop (k + 1) := List.drop_eq_getElem_cons h
theorem okE_open {o n : Int} {s : ByteArray} {l : List Ex} (h : okE (.mk o n s l)) : s.size ≤ 1000000000000000 ∧ l.length ≤ 1000000000000000 ∧ okEs l := by
  rw [okE] at h
  exact ⟨h.2.2.1, h.2.2.2.1, h.2.2.2.2⟩
theorem exV_mk (o n : Int) (s : ByteArray) (l : List Ex) (a : Option Addr) (c : Nat) : exV (.mk o n s l) a c = .agg #[.int .i64 o, .int .i64 n, .string s, .slice a l.length c] := rfl
theorem exO_mk (o n : Int) (s : ByteArray) (l : List Ex) (a : Option Addr) (c : Nat) : exO (.mk o n s l) a c = .cells #[.int .i64 o, .int .i64 n, .string s, .slice a l.length c] 28 := rfl
theorem op_mk (o n : Int) (s : ByteArray) (l : List Ex) : (Ex.mk o n s l).op = o := rfl
theorem n_mk (o n : Int) (s : ByteArray) (l : List Ex) : (Ex.mk o n s l).n = n := rfl
theorem s_mk (o n : Int) (s : ByteArray) (l : List Ex) : (Ex.mk o n s l).s = s := rfl
theorem args_mk (o n : Int) (s : ByteArray) (l : List Ex) : (Ex.mk o n s l).args = l := rfl
/-- the box of an expression, later -/
theorem box_later {w w' : World} {e : Ex} {a : Option Addr} {c : Nat} (hb : Below (w.alloc (exO e a c)).heap.size (w.alloc (exO e a c)) w') :
    w'.cell? ⟨w.heap.size, 0, none⟩ = some (.int .i64 e.op) ∧ w'.cell? ⟨w.heap.size, 1, none⟩ = some (.int .i64 e.n) ∧ w'.cell? ⟨w.heap.size, 2, none⟩ = some (.string e.s) ∧ w'.cell? ⟨w.heap.size, 3, none⟩ = some (.slice a e.args.length c) := by
  obtain ⟨c0, c1, c2, c3⟩ := exO_cells w e a c
  have hlt : w.heap.size < (w.alloc (exO e a c)).heap.size := by simp
  exact ⟨(hb.cell hlt).trans c0, (hb.cell hlt).trans c1, (hb.cell hlt).trans c2, (hb.cell hlt).trans c3⟩
end Go.Proofs.YtbmdadhbkdkgmaaDoor.A
namespace Go.Proofs.YtbmdadhbkdkgmaaDoor.A
open Go.RowKit
open L (Str isName prt size_len below_2 below_box ret_bool ret_int eql_eq bytes_eq)

/-- a number counted up to a bound: exact up to it, beyond it if there are more -/
structure Cnt (x : Nat) (m r : Int) : Prop where
  pos : 0 ≤ r
  le : r ≤ x
  eq : (x : Int) ≤ m → r = x
  gt : m < x → m < r
  top : r ≤ max m 0 + 100000000000000
theorem cEs_take {l : List Ex} {k : Nat} (h : k < l.length) : cEs (l.take (k + 1)) = cEs (l.take k) + cE l[k] := by
  induction l generalizing k with
  | nil => cases h
  | cons e l ih =>
    cases k with
    | zero => simp [cEs]
    | succ k =>
      have := ih (k := k) (by simpa using h)
      simp only [List.take_succ_cons, cEs, List.getElem_cons_succ] at this ⊢
      omega
theorem cEs_le (l : List Ex) (k : Nat) : cEs (l.take k) ≤ cEs l := by
  induction l generalizing k with
  | nil => simp
  | cons e l ih =>
    cases k with
    | zero => simp [cEs]
    | succ k =>
      have := ih k
      simp only [List.take_succ_cons, cEs] at this ⊢
      omega
end Go.Proofs.YtbmdadhbkdkgmaaDoor.A
namespace Go.Proofs.YtbmdadhbkdkgmaaDoor.A
open Go.RowKit
open L (Str isName prt size_len below_2 below_box ret_bool ret_int eql_eq bytes_eq)

theorem eqEs_len {l l2 : List Ex} (h : ¬ l.length = l2.length) : eqEs l l2 = false := by
  cases he : eqEs l l2
  · rfl
  · rw [(eqEs_iff l l2).1 he] at h; exact absurd rfl h
theorem bytes_dec (a b : ByteArray) : (a.toList == b.toList) = decide (a = b) := by
  rw [eql_eq]
  exact decide_eq_decide.2 ⟨fun h => bytes_eq h, fun h => by rw [h]⟩
/-- two boxes, later -/
theorem boxes_later {w w' : World} {e e2 : Ex} {a a2 : Option Addr} {c c2 : Nat} (hb : Below ((w.alloc (exO e a c)).alloc (exO e2 a2 c2)).heap.size ((w.alloc (exO e a c)).alloc (exO e2 a2 c2)) w') :
    (w'.cell? ⟨w.heap.size, 0, none⟩ = some (.int .i64 e.op) ∧ w'.cell? ⟨w.heap.size, 1, none⟩ = some (.int .i64 e.n) ∧ w'.cell? ⟨w.heap.size, 2, none⟩ = some (.string e.s) ∧ w'.cell? ⟨w.heap.size, 3, none⟩ = some (.slice a e.args.length c)) ∧
    (w'.cell? ⟨w.heap.size + 1, 0, none⟩ = some (.int .i64 e2.op) ∧ w'.cell? ⟨w.heap.size + 1, 1, none⟩ = some (.int .i64 e2.n) ∧ w'.cell? ⟨w.heap.size + 1, 2, none⟩ = some (.string e2.s) ∧ w'.cell? ⟨w.heap.size + 1, 3, none⟩ = some (.slice a2 e2.args.length c2)) := by
  have h1 := box_later (below_2 (below_box (w.alloc (exO e a c)) (exO e2 a2 c2)) hb)
  have h2 := box_later (w := w.alloc (exO e a c)) hb
  have hsz : (w.alloc (exO e a c)).heap.size = w.heap.size + 1 := by simp
  rw [hsz] at h2
  exact ⟨h1, h2⟩
set_option maxHeartbeats 4000000 in
set_option maxRecDepth 100000 in
theorem requalExpr_any : ∀ (e e2 : Ex) (a : Option Addr) (c : Nat) (a2 : Option Addr) (c2 : Nat), okE e → okE e2 → ∀ w : World, Kids w a e.args → Kids w a2 e2.args →
    Calls Tryd.prog 42 #[exV e a c, exV e2 a2 c2] w fun e' w' => e' = .returned (.bool (eqE e e2)) ∧ Below w.heap.size w w' := by
  refine Ex.ind (P := fun e => ∀ (e2 : Ex) (a : Option Addr) (c : Nat) (a2 : Option Addr) (c2 : Nat), okE e → okE e2 → ∀ w : World, Kids w a e.args → Kids w a2 e2.args →
    Calls Tryd.prog 42 #[exV e a c, exV e2 a2 c2] w fun e' w' => e' = .returned (.bool (eqE e e2)) ∧ Below w.heap.size w w') ?_
  intro o n s l ih e2 a c a2 c2 hok hok2 w hK hK2
  obtain ⟨o2, n2, s2, l2⟩ := e2
  obtain ⟨_, hl, hoks⟩ := okE_open hok
  obtain ⟨_, hl2, hoks2⟩ := okE_open hok2
  have HW := Lib.hid (below_2 (below_box w (exO (.mk o n s l) a c)) (below_box (w.alloc (exO (.mk o n s l) a c)) (exO (.mk o2 n2 s2 l2) a2 c2)))
  have HBL := Lib.hid (fun w' hb => boxes_later (w := w) (w' := w') (e := .mk o n s l) (e2 := .mk o2 n2 s2 l2) (a := a) (c := c) (a2 := a2) (c2 := c2) hb)
  have HKK : Hid (Kids w a l) := hK
  have HKK2 : Hid (Kids w a2 l2) := hK2
  have HIH := Lib.hid ih
  have HOK := Lib.hid hoks
  have HOK2 := Lib.hid hoks2
  have hbs := bytes_dec s s2
  rw [eqE, ← hbs]
  simp only [exV_mk, exO_mk, op_mk, n_mk, s_mk, args_mk] at HW HBL ⊢
  obtain ⟨R, hR⟩ : ∃ R, eqEs l l2 = R := ⟨_, rfl⟩
  rw [hR]
  have hRl := fun h => hR.symm.trans (eqEs_len (l := l) (l2 := l2) h)
  have HR : Hid (eqEs (l.drop 0) (l2.drop 0) = R) := hR
  obtain ⟨g, hg⟩ : ∃ g, l.length = g := ⟨_, rfl⟩
  obtain ⟨g2, hg2⟩ : ∃ g, l2.length = g := ⟨_, rfl⟩
  have HL := Lib.hid hg
  have HL2 := Lib.hid hg2
  rw [hg] at HW HBL hl hRl ⊢
  rw [hg2] at HW HBL hl2 hRl ⊢
  clear hK hK2 ih hoks hoks2 hok hok2 hg hg2 hR hbs
  obtain ⟨t, ht⟩ : ∃ t, (s.toList == s2.toList) = t := ⟨_, rfl⟩
  rw [ht]
  by_cases h1 : o = o2
  · have b1 : (o != o2) = false := by rw [bne_eq_false_iff_eq]; exact h1
    rw [decide_eq_true h1, Bool.true_and]
    by_cases h2 : n = n2
    · have b2 : (n != n2) = false := by rw [bne_eq_false_iff_eq]; exact h2
      rw [decide_eq_true h2, Bool.true_and]
      cases t
      · rw [Bool.false_and]
        clear h1 h2
        go_enter Tryd.func42, Tryd.ntmps42
        go_wp2_with fail
        go_ret
        exact ⟨rfl, HW.out⟩
      · rw [Bool.true_and]
        by_cases h4 : g = g2
        · have b4 : ((g : Int) != (g2 : Int)) = false := by rw [bne_eq_false_iff_eq]; omega
          subst h4
          clear h1 h2 hRl
          go_enter Tryd.func42, Tryd.ntmps42
          go_wp2_with fail
          go_loopw [5] (fun s5 wr => ∃ k : Nat, k ≤ g ∧ s5 = .int .i64 k ∧ Hid (eqEs (l.drop k) (l2.drop k) = R) ∧ Hid (Below ((w.alloc (.cells #[.int .i64 o, .int .i64 n, .string s, .slice a g c] 28)).alloc (.cells #[.int .i64 o2, .int .i64 n2, .string s2, .slice a2 g c2] 28)).heap.size ((w.alloc (.cells #[.int .i64 o, .int .i64 n, .string s, .slice a g c] 28)).alloc (.cells #[.int .i64 o2, .int .i64 n2, .string s2, .slice a2 g c2] 28)) wr)) (fun s5 _ => g - (intOf s5).toNat)
          case atStart => exact ⟨0, Nat.zero_le _, rfl, HR, Below.refl _ _⟩
          case round =>
            obtain ⟨k, hk, rfl, HX, HB⟩ := hrel
            obtain ⟨⟨c0, c1, c2', c3⟩, ⟨u0, u1, u2, u3⟩⟩ := HBL.out _ HB.out
            have HBB := Lib.hid (below_2 HW.out HB.out)
            by_cases hlt : k < g
            · have hlx : k < l.length := by rw [HL.out]; exact hlt
              have hly : k < l2.length := by rw [HL2.out]; exact hlt
              have hx := HX.out
              rw [drop_ex hlx, drop_ex hly, eqEs] at hx
              obtain ⟨b2', i2, rfl, hat⟩ := (HKK.out.below HBB.out).open hlx
              obtain ⟨b3', i3, rfl, hat2⟩ := (HKK2.out.below HBB.out).open hly
              obtain ⟨d0, d1, d2, a4, c4, d3, hk4⟩ := hat.open
              obtain ⟨f0, f1, f2, a5, c5, f3, hk5⟩ := hat2.open
              have HC := Lib.hid (fun d os => Calls.regrown_of (d := d) (os := os) (HIH.out k hlx l2[k] a4 c4 a5 c5 (HOK.out.get k hlx) (HOK2.out.get k hly) _ (hk4.below (below_regrown wr d os)) (hk5.below (below_regrown wr d os))))
              clear hat hat2 hk4 hk5
              generalize eqE l[k] l2[k] = x at HC hx
              unfold exV at HC
              generalize l[k].args.length = m2 at d3 HC
              generalize l[k].op = p0 at d0 HC
              generalize l[k].n = p1 at d1 HC
              generalize l[k].s = p2 at d2 HC
              generalize l2[k].args.length = m3 at f3 HC
              generalize l2[k].op = q0 at f0 HC
              generalize l2[k].n = q1 at f1 HC
              generalize l2[k].s = q2 at f2 HC
              have c3g := fun d os => cell_regrown c3 d os
              have u3g := fun d os => cell_regrown u3 d os
              have d0g := fun d os => cell_regrown d0 d os
              have d1g := fun d os => cell_regrown d1 d os
              have d2g := fun d os => cell_regrown d2 d os
              have d3g := fun d os => cell_regrown d3 d os
              have f0g := fun d os => cell_regrown f0 d os
              have f1g := fun d os => cell_regrown f1 d os
              have f2g := fun d os => cell_regrown f2 d os
              have f3g := fun d os => cell_regrown f3 d os
              cases x
              · rw [Bool.false_and] at hx
                have HV := Lib.hid hx
                clear hx
                go_wp2_with fail
                refine wp_region_quiet_below (by kernel_rfl) (by kernel_rfl) ?_
                repeat (go_big_quiet_step (with_reducible exact HC.out _ _))
                refine wpQuiet_nil ?_
                intro w4 hw'
                obtain ⟨⟨dq, osq⟩, hw2⟩ := hw'
                have hb4 := below_regrown wr dq osq
                rw [← hw2] at hb4
                have HB4 := Lib.hid (below_2 HBB.out hb4)
                clear hw2 hb4
                go_wp2_with fail
                go_ret
                exact ⟨ret_bool HV.out, HB4.out⟩
              · rw [Bool.true_and] at hx
                have HN := Lib.hid hx
                clear hx
                go_wp2_with fail
                refine wp_region_quiet_below (by kernel_rfl) (by kernel_rfl) ?_
                repeat (go_big_quiet_step (with_reducible exact HC.out _ _))
                refine wpQuiet_nil ?_
                intro w4 hw'
                obtain ⟨⟨dq, osq⟩, hw2⟩ := hw'
                have hb4 := below_regrown wr dq osq
                rw [← hw2] at hb4
                have HB4 := Lib.hid (below_2 HB.out hb4)
                clear hw2 hb4
                go_wp2_with fail
                go_roundw
                case rel => exact ⟨k + 1, by omega, by go_num, HN, HB4⟩
                case measure => simp [intOf]; omega
            · have HV : Hid (R = true) := by
                show _ = _
                rw [← HX.out, List.drop_of_length_le (by rw [HL.out]; omega), List.drop_of_length_le (by rw [HL2.out]; omega), eqEs]
              go_wp2_with fail
              go_ret
              exact ⟨ret_bool HV.out.symm, HBB.out⟩
        · have b4 : ((g : Int) != (g2 : Int)) = true := bne_iff_ne.2 (by omega)
          have HV := Lib.hid (hRl h4)
          clear h1 h2 h4 hRl
          go_enter Tryd.func42, Tryd.ntmps42
          go_wp2_with fail
          go_ret
          exact ⟨ret_bool HV.out.symm, HW.out⟩
    · have b2 : (n != n2) = true := bne_iff_ne.2 h2
      rw [decide_eq_false h2, Bool.false_and, Bool.false_and]
      clear h1 h2 hRl
      go_enter Tryd.func42, Tryd.ntmps42
      go_wp2_with fail
      go_ret
      exact ⟨rfl, HW.out⟩
  · have b1 : (o != o2) = true := bne_iff_ne.2 h1
    rw [decide_eq_false h1, Bool.false_and, Bool.false_and, Bool.false_and]
    clear h1 hRl
    go_enter Tryd.func42, Tryd.ntmps42
    go_wp2_with fail
    go_ret
    exact ⟨rfl, HW.out⟩
end Go.Proofs.YtbmdadhbkdkgmaaDoor.A
namespace Go.Proofs.YtbmdadhbkdkgmaaDoor.A
open Go.RowKit
open L (Str isName prt size_len below_2 below_box ret_bool ret_int eql_eq bytes_eq)

/-- a number counted up to a bound, whatever lies beyond -/
structure Core (x : Nat) (m r : Int) : Prop where
  pos : 0 ≤ r
  le : r ≤ x
  eq : (x : Int) ≤ m → r = x
  gt : m < x → m < r
theorem Cnt.core {x : Nat} {m r : Int} (h : Cnt x m r) : Core x m r := ⟨h.pos, h.le, h.eq, h.gt⟩
theorem Core.add {x y : Nat} {m n r : Int} (h : Core x m n) (h2 : Core y (m - n) r) : Core (x + y) m (n + r) := by
  obtain ⟨a1, a2, a3, a4⟩ := h
  obtain ⟨b1, b2, b3, b4⟩ := h2
  refine ⟨by omega, by omega, fun h => ?_, fun h => ?_⟩
  · have := a3 (by omega); have := b3 (by omega); omega
  · by_cases hx : (x : Int) ≤ m
    · have := a3 hx; have := b4 (by omega); omega
    · have := a4 (by omega); omega
theorem Core.plus {x y : Nat} {m n : Int} (h : Core x m n) (hn : n ≤ m) : Core (x + y) m (n + y) := by
  obtain ⟨a1, a2, a3, a4⟩ := h
  have : n = x := a3 (by apply Decidable.byContradiction; intro hx; have := a4 (by omega); omega)
  exact ⟨by omega, by omega, fun h => by omega, fun h => by omega⟩
theorem cS_parts (s : St) : cS s = 1 + s.name.size / 64 + cE s.a + cE s.b + cB s.body + cB s.els := by
  obtain ⟨o, nm, mx, a, b, bd, el⟩ := s
  rw [cS]; rfl
theorem cB_take {l : List St} {k : Nat} (h : k < l.length) : cB (l.take (k + 1)) = cB (l.take k) + cS l[k] := by
  induction l generalizing k with
  | nil => cases h
  | cons e l ih =>
    cases k with
    | zero => simp [cB]
    | succ k =>
      have := ih (k := k) (by simpa using h)
      simp only [List.take_succ_cons, cB, List.getElem_cons_succ] at this ⊢
      omega
theorem cB_le (l : List St) (k : Nat) : cB (l.take k) ≤ cB l := by
  induction l generalizing k with
  | nil => simp
  | cons e l ih =>
    cases k with
    | zero => simp [cB]
    | succ k =>
      have := ih k
      simp only [List.take_succ_cons, cB] at this ⊢
      omega
/-- what countBody's result is -/
structure CntB (x : Nat) (m r : Int) : Prop where
  core : Core x m r
  top : r ≤ max m 0 + 300000000000000
  none : m < 0 → r = 0
end Go.Proofs.YtbmdadhbkdkgmaaDoor.A
namespace Go.Proofs.YtbmdadhbkdkgmaaDoor.A
open Go.RowKit
open L (Str isName prt size_len below_2 below_box ret_bool ret_int eql_eq bytes_eq)

theorem small_bad {p : Pr} {m k : Nat} (h : k < p.params.length) (h2 : 200 < p.params[k].name.size) : small p m = false := by
  unfold small
  have : p.params.all (fun q => decide (q.name.size ≤ 200)) = false := List.all_eq_false.2 ⟨p.params[k], List.getElem_mem h, by rw [decide_eq_false (by omega)]; decide⟩
  rw [this]; simp
theorem small_long {p : Pr} {m : Nat} (h : 40 < p.params.length) : small p m = false := by unfold small; rw [decide_eq_false (by omega)]; rfl
theorem small_name {p : Pr} {m : Nat} (h : 200 < p.name.size) : small p m = false := by unfold small; rw [decide_eq_false (show ¬ p.name.size ≤ 200 by omega)]; simp
theorem small_end {p : Pr} {m : Nat} (h1 : ¬ 40 < p.params.length) (h2 : ¬ 200 < p.name.size) (h3 : ∀ j (h : j < p.params.length), ¬ 200 < p.params[j].name.size) : small p m = decide (cB p.body ≤ m) := by
  unfold small
  have : p.params.all (fun q => decide (q.name.size ≤ 200)) = true := by
    rw [List.all_eq_true]
    intro q hq
    obtain ⟨j, hj, rfl⟩ := List.getElem_of_mem hq
    exact decide_eq_true (by have := h3 j hj; omega)
  rw [this, decide_eq_true (by omega), decide_eq_true (by omega)]; rfl
end Go.Proofs.YtbmdadhbkdkgmaaDoor.A
