/-
  What the reference of layer 9 returns: level, sign, word, typeWord, at over text: contracts, one a function.
  What the reference of layer 9 returns: text, Expr: contracts.
  What the reference of layer 9 returns: text of whatever valid expression, Expr: contracts.
-/
import Derived.Test.YtbmdadhbkdkgmaaGreatDoorPC
import Derived.Test.YtbmdadhbkdkgmaaGreatDoorGC
import Derived.Lib.QuietBelow
import Derived.IntWalk
namespace Go.Proofs.YtbmdadhbkdkgmaaGreatDoor.P
open Go.RowKit
open L (Str isName prt size_len below_2 below_box ret_bool ret_int ret_string bytes_eq append_list)
open A

theorem ba_list (l : Str) : (ba l).data.toList = l := by unfold ba; simp
theorem ba_eq {a : ByteArray} {l : Str} (h : a.data.toList = l) : a = ba l := bytes_eq (by rw [h, ba_list])
theorem ba_size (l : Str) : (ba l).size = l.length := by rw [size_len, ba_list]
theorem ops27 {o : Int} (h : 1 ≤ o) (h2 : o ≤ 27) : o = 1 ∨ o = 2 ∨ o = 3 ∨ o = 4 ∨ o = 5 ∨ o = 6 ∨ o = 7 ∨ o = 8 ∨ o = 9 ∨ o = 10 ∨ o = 11 ∨ o = 12 ∨ o = 13 ∨ o = 14 ∨ o = 15 ∨ o = 16 ∨ o = 17 ∨ o = 18 ∨ o = 19 ∨ o = 20 ∨ o = 21 ∨ o = 22 ∨ o = 23 ∨ o = 24 ∨ o = 25 ∨ o = 26 ∨ o = 27 := by omega
theorem w_op {h : Nat} {e : Ex} (w : W h e) : 1 ≤ e.op ∧ e.op ≤ 27 := by
  cases w <;> simp only [Ex.op] <;> omega
set_option maxHeartbeats 2000000 in
set_option maxRecDepth 100000 in
theorem rlevel_any (o : Int) (h : 1 ≤ o) (h2 : o ≤ 27) (w : World) : Calls Tryz.prog 45 #[.int .i64 o] w fun e w' => e = .returned (.int .i64 ((lv o : Nat) : Int)) ∧ w = w' := by
  rcases ops27 h h2 with rfl | rfl | rfl | rfl | rfl | rfl | rfl | rfl | rfl | rfl | rfl | rfl | rfl | rfl | rfl | rfl | rfl | rfl | rfl | rfl | rfl | rfl | rfl | rfl | rfl | rfl | rfl
  all_goals
    clear h h2
    go_enter Tryz.func45, Tryz.ntmps45
    go_wp2_with fail
    go_ret
    exact ⟨rfl, rfl⟩
theorem ops_bin {o : Int} (h : 4 ≤ o) (h2 : o ≤ 19) (h3 : o ≠ 9) (h4 : o ≠ 18) : o = 4 ∨ o = 5 ∨ o = 6 ∨ o = 7 ∨ o = 8 ∨ o = 10 ∨ o = 11 ∨ o = 12 ∨ o = 13 ∨ o = 14 ∨ o = 15 ∨ o = 16 ∨ o = 17 ∨ o = 19 := by omega
set_option maxHeartbeats 2000000 in
set_option maxRecDepth 100000 in
theorem rsign_any (o : Int) (h : 4 ≤ o) (h2 : o ≤ 19) (h3 : o ≠ 9) (h4 : o ≠ 18) (w : World) : Calls Tryz.prog 50 #[.int .i64 o] w fun e w' => e = .returned (.string (ba (sg o))) ∧ w = w' := by
  rcases ops_bin h h2 h3 h4 with rfl | rfl | rfl | rfl | rfl | rfl | rfl | rfl | rfl | rfl | rfl | rfl | rfl | rfl
  all_goals
    clear h h2 h3 h4
    go_enter Tryz.func50, Tryz.ntmps50
    go_wp2_with fail
    go_ret
    exact ⟨rfl, rfl⟩
set_option maxHeartbeats 2000000 in
set_option maxRecDepth 100000 in
theorem rword_any (o : Int) (h : 20 ≤ o) (h2 : o ≤ 27) (w : World) : Calls Tryz.prog 49 #[.int .i64 o] w fun e w' => e = .returned (.string (ba (wd o))) ∧ w = w' := by
  have : o = 20 ∨ o = 21 ∨ o = 22 ∨ o = 23 ∨ o = 24 ∨ o = 25 ∨ o = 26 ∨ o = 27 := by omega
  rcases this with rfl | rfl | rfl | rfl | rfl | rfl | rfl | rfl
  all_goals
    clear h h2
    go_enter Tryz.func49, Tryz.ntmps49
    go_wp2_with fail
    go_ret
    exact ⟨rfl, rfl⟩
set_option maxHeartbeats 2000000 in
set_option maxRecDepth 100000 in
theorem rtypeWord_any (t : Int) (h : 1 ≤ t) (h2 : t ≤ 3) (w : World) : Calls Tryz.prog 13 #[.int .i64 t] w fun e w' => e = .returned (.string (ba (tyW t))) ∧ w = w' := by
  have : t = 1 ∨ t = 2 ∨ t = 3 := by omega
  rcases this with rfl | rfl | rfl
  all_goals
    clear h h2
    go_enter Tryz.func13, Tryz.ntmps13
    go_wp2_with fail
    go_ret
    exact ⟨rfl, rfl⟩
/-- what text of the reference returns -/
def RTx (e : Ex) : Prop := ∀ (a : Option Addr) (c : Nat) (w : World), A.Kids w a e.args → Calls Tryz.prog 24 #[exV e a c] w fun e' w' => e' = .returned (.string (ba (tx e))) ∧ Below w.heap.size w w'
theorem pow13 {h : Nat} (hh : h ≤ 13) : 140 * 2 ^ h ≤ 1146880 := by
  have : 2 ^ h ≤ 2 ^ 13 := Nat.pow_le_pow_right (by decide) hh
  omega
theorem tx_size {h : Nat} {e : Ex} (w : W h e) (hh : h ≤ 13) : (ba (tx e)).size ≤ 1146880 := by
  rw [ba_size]
  have := tx_len w
  have := pow13 hh
  omega
set_option maxHeartbeats 2000000 in
set_option maxRecDepth 100000 in
theorem rat_any {h : Nat} {e : Ex} (hw : W h e) (hh : h ≤ 13) (hT : RTx e) (m : Nat) (a : Option Addr) (c : Nat) (w : World) (hK : A.Kids w a e.args) :
    Calls Tryz.prog 48 #[exV e a c, .int .i64 (m : Int)] w fun e' w' => e' = .returned (.string (ba (att m (lv e.op, tx e)))) ∧ Below w.heap.size w w' := by
  have hb := below_box w (exO e a c)
  have HL := Lib.hid (fun w => rlevel_any e.op (w_op hw).1 (w_op hw).2 w)
  have HT := Lib.hid (hT a c _ (hK.below hb))
  have HB := Lib.hid hb
  have hz := tx_size hw hh
  have HV : Hid (att m (lv e.op, tx e) = if lv e.op < m then 40 :: (tx e ++ [41]) else tx e) := rfl
  have HX := Lib.hid (ba_list (tx e))
  rw [HV.out]
  generalize ba (tx e) = T at HT hz HX
  generalize lv e.op = L at HL ⊢
  unfold exO at HT HB
  unfold exV at *
  clear hb hT hK hw HV
  by_cases hl : L < m
  · have bl : decide (L < m) = true := decide_eq_true hl
    rw [if_pos hl]
    clear hl
    go_enter Tryz.func48, Tryz.ntmps48
    go_wp2_with fail
    refine (HL.out _).mono ?_; rintro e' w1 ⟨rfl, rfl⟩
    go_wp2_with fail
    refine HT.out.mono ?_; rintro e' w2 ⟨rfl, hb2⟩
    have HB2 := Lib.hid (below_2 HB.out hb2)
    clear hb2
    go_wp2_with fail
    go_ret
    exact ⟨ret_string (ba_eq (by rw [append_list, append_list, HX.out]; rfl)), HB2.out⟩
  · have bl : decide (L < m) = false := decide_eq_false hl
    rw [if_neg hl]
    clear hl
    go_enter Tryz.func48, Tryz.ntmps48
    go_wp2_with fail
    refine (HL.out _).mono ?_; rintro e' w1 ⟨rfl, rfl⟩
    go_wp2_with fail
    refine HT.out.mono ?_; rintro e' w2 ⟨rfl, hb2⟩
    have HB2 := Lib.hid (below_2 HB.out hb2)
    clear hb2
    go_wp2_with fail
    go_ret
    exact ⟨ret_string (ba_eq HX.out), HB2.out⟩
end Go.Proofs.YtbmdadhbkdkgmaaGreatDoor.P
namespace Go.Proofs.YtbmdadhbkdkgmaaGreatDoor.P
open Go.RowKit
open L (Str isName prt size_len below_2 below_box ret_bool ret_int ret_string bytes_eq append_list)
open A

/-- the cells of an expression that lies at a place -/
structure Kid (w : World) (e : Ex) (b i : Nat) (a : Option Addr) (c : Nat) : Prop where
  k0 : w.cell? ⟨b, i, none⟩ = some (.int .i64 e.op)
  k1 : w.cell? ⟨b, i + 1, none⟩ = some (.int .i64 e.n)
  k2 : w.cell? ⟨b, i + 2, none⟩ = some (.string e.s)
  k3 : w.cell? ⟨b, i + 3, none⟩ = some (.slice a e.args.length c)
  kids : A.Kids w a e.args
theorem kid_of {w : World} {e : Ex} {b i : Nat} (h : ExAt w e b i) : ∃ a c, Kid w e b i a c := by
  obtain ⟨d0, d1, d2, a, c, d3, hk⟩ := h.open
  exact ⟨a, c, d0, d1, d2, d3, hk⟩
theorem kids1 {w : World} {a : Option Addr} {x : Ex} (h : A.Kids w a [x]) : ∃ b i a2 c2, a = some ⟨b, i, none⟩ ∧ Kid w x b i a2 c2 := by
  obtain ⟨b, i, rfl, hat⟩ := h.open (k := 0) (by simp)
  simp only [Nat.zero_mul, Nat.add_zero, List.getElem_cons_zero] at hat
  obtain ⟨a2, c2, hk⟩ := kid_of hat
  exact ⟨b, i, a2, c2, rfl, hk⟩
theorem kids2 {w : World} {a : Option Addr} {x y : Ex} (h : A.Kids w a [x, y]) : ∃ b i a2 c2 a3 c3, a = some ⟨b, i, none⟩ ∧ Kid w x b i a2 c2 ∧ Kid w y b (i + 4) a3 c3 := by
  rcases h with h | ⟨b, i, rfl, h⟩
  · cases h
  · rw [ExsAt, ExsAt] at h
    obtain ⟨a2, c2, hk⟩ := kid_of h.1
    obtain ⟨a3, c3, hk3⟩ := kid_of h.2.1
    exact ⟨b, i, a2, c2, a3, c3, rfl, hk, hk3⟩
theorem box_kids {w : World} {e : Ex} {a : Option Addr} {c : Nat} (h : A.Kids w a e.args) : A.Kids (w.alloc (exO e a c)) a e.args := h.below (below_box w _)
theorem tx_int (n : Int) : tx (.mk 1 n none8 []) = Go.Lib.itoa n := rfl
theorem tx_str (s : ByteArray) : tx (.mk 2 0 s []) = L.quo (str s) := rfl
theorem tx_var (s : ByteArray) : tx (.mk 3 0 s []) = str s := rfl
theorem tx_nul {o : Int} (h : 25 ≤ o) : tx (.mk o 0 none8 []) = wd o ++ [40, 41] := by
  rw [tx, txs]; unfold txN
  rw [if_neg (by omega), if_neg (by omega), if_neg (by omega)]
theorem tx_18 (a : Ex) : tx (.mk 18 0 none8 [a]) = sNot ++ 32 :: att 3 (lv a.op, tx a) := by
  rw [tx, txs, txs]; rfl
theorem tx_9 (a : Ex) : tx (.mk 9 0 none8 [a]) = 45 :: att 8 (lv a.op, tx a) := by
  rw [tx, txs, txs]; rfl
theorem tx_calls {o : Int} (h : 20 ≤ o) (a : Ex) : tx (.mk o 0 none8 [a]) = wd o ++ 40 :: (tx a ++ [41]) := tx_call h a
theorem tx_two {o : Int} (h1 : 4 ≤ o) (h3 : o ≠ 9) (h4 : o ≠ 18) (a b : Ex) : tx (.mk o 0 none8 [a, b]) = if lv o = 4 then att 5 (lv a.op, tx a) ++ 32 :: (sg o ++ 32 :: att 5 (lv b.op, tx b)) else att (lv o) (lv a.op, tx a) ++ 32 :: (sg o ++ 32 :: att (lv o + 1) (lv b.op, tx b)) := by
  have _ := h3
  have _ := h4
  rw [tx, txs, txs, txs]; unfold txN
  rw [if_neg (by omega), if_neg (by omega), if_neg (by omega)]
theorem att_size {h : Nat} {e : Ex} (w : W h e) (hh : h ≤ 13) (m : Nat) : (ba (att m (lv e.op, tx e))).size ≤ 1146890 := by
  rw [ba_size]
  have := att_len m (lv e.op, tx e)
  have := tx_len w
  have := pow13 hh
  simp only at *
  omega
theorem sg_size (o : Int) : (ba (sg o)).size ≤ 3 := by rw [ba_size]; exact sg_len o
theorem wd_size (o : Int) : (ba (wd o)).size ≤ 6 := by rw [ba_size]; exact wd_len o
set_option maxHeartbeats 4000000 in
set_option maxRecDepth 100000 in
theorem rtext_bin (h : Nat) (o : Int) (x y : Ex) (hh : h ≤ 12) (h1 : 4 ≤ o) (h2 : o ≤ 19) (h3 : o ≠ 9) (h4 : o ≠ 18) (wx : W h x) (wy : W h y) (ix : RTx x) (iy : RTx y) : RTx (.mk o 0 none8 [x, y]) := by
  intro a c w hK
  have hb := below_box w (exO (.mk o 0 none8 [x, y]) a c)
  have hK2 := box_kids (c := c) hK
  obtain ⟨b, i, a2, c2, a3, c3, rfl, kx, ky⟩ := kids2 hK2
  have HL := Lib.hid (grownS (W := w.alloc (exO (.mk o 0 none8 [x, y]) (some ⟨b, i, none⟩) c)) (fun w => (rsign_any o h1 h2 h3 h4 w).mono fun _ _ ⟨p, q⟩ => ⟨p, q.symm⟩))
  have HLV := Lib.hid (fun w => rlevel_any o (by omega) (by omega) w)
  have HAX := Lib.hid (fun (m : Nat) (d : Nat) (os : Array Obj) => Calls.regrown_of (d := d) (os := os) (rat_any wx (by omega) ix m a2 c2 _ (kx.kids.below (below_regrown _ d os))))
  have HAY := Lib.hid (fun (m : Nat) (d : Nat) (os : Array Obj) => Calls.regrown_of (d := d) (os := os) (rat_any wy (by omega) iy m a3 c3 _ (ky.kids.below (below_regrown _ d os))))
  have HSX := Lib.hid (fun m => att_size wx (by omega) m)
  have HSY := Lib.hid (fun m => att_size wy (by omega) m)
  have hsg := sg_size o
  have HG := Lib.hid (ba_list (sg o))
  have HV := Lib.hid (tx_two h1 h3 h4 x y)
  obtain ⟨e0, e1, e2, e3⟩ := exO_cells w (.mk o 0 none8 [x, y]) (some ⟨b, i, none⟩) c
  have HB := Lib.hid hb
  obtain ⟨z, hz⟩ : ∃ z : Int, ((lv o : Nat) : Int) = z := ⟨_, rfl⟩
  have hz9 : (z == 9) = false := by
    rw [← hz]
    rcases ops_bin h1 h2 h3 h4 with rfl | rfl | rfl | rfl | rfl | rfl | rfl | rfl | rfl | rfl | rfl | rfl | rfl | rfl <;> rfl
  have hzb : 0 ≤ z ∧ z ≤ 9 := by
    rw [← hz]
    rcases ops_bin h1 h2 h3 h4 with rfl | rfl | rfl | rfl | rfl | rfl | rfl | rfl | rfl | rfl | rfl | rfl | rfl | rfl <;> decide
  have t1 : (o == 1) = false := beq_eq_false_iff_ne.2 (by omega)
  have t2 : (o == 2) = false := beq_eq_false_iff_ne.2 (by omega)
  have t3 : (o == 3) = false := beq_eq_false_iff_ne.2 (by omega)
  have t18 : (o == 18) = false := beq_eq_false_iff_ne.2 (by omega)
  have t9 : (o == 9) = false := beq_eq_false_iff_ne.2 (by omega)
  rw [hz] at HLV
  generalize ba (sg o) = G at HL hsg HG
  simp only [exV_mk, exO_mk, op_mk, n_mk, s_mk, args_mk, List.length_cons, List.length_nil] at *
  have e0g := fun d os => cell_regrown e0 d os
  have e3g := fun d os => cell_regrown e3 d os
  have x0g := fun d os => cell_regrown kx.k0 d os
  have x1g := fun d os => cell_regrown kx.k1 d os
  have x2g := fun d os => cell_regrown kx.k2 d os
  have x3g := fun d os => cell_regrown kx.k3 d os
  have y0g := fun d os => cell_regrown ky.k0 d os
  have y1g := fun d os => cell_regrown ky.k1 d os
  have y2g := fun d os => cell_regrown ky.k2 d os
  have y3g := fun d os => cell_regrown ky.k3 d os
  by_cases h4c : lv o = 4
  · have hz4 : (z == 4) = true := by rw [← hz, h4c]; rfl
    rw [if_pos h4c] at HV
    have HX := Lib.hid (HAX.out 5)
    have HY := Lib.hid (HAY.out 5)
    have sx := HSX.out 5
    have sy := HSY.out 5
    have TX := Lib.hid (ba_list (att 5 (lv x.op, tx x)))
    have TY := Lib.hid (ba_list (att 5 (lv y.op, tx y)))
    unfold exV at HX HY
    simp only [show ((5 : Nat) : Int) = 5 from rfl] at HX HY
    generalize ba (att 5 (lv x.op, tx x)) = X at HX sx TX
    generalize ba (att 5 (lv y.op, tx y)) = Y at HY sy TY
    clear hb hK hK2 kx ky e0 e1 e2 e3 HAX HAY HSX HSY h4c hz wx wy ix iy h1 h2 h3 h4
    go_enter Tryz.func24, Tryz.ntmps24
    go_wp2_with fail
    refine (HLV.out _).mono ?_; rintro e' w1 ⟨rfl, rfl⟩
    go_wp2_with fail
    refine wp_region_quiet_below (by kernel_rfl) (by kernel_rfl) ?_
    repeat (go_big_quiet_step (with_reducible first | exact HX.out _ _ | exact HY.out _ _ | exact HL.out _ _))
    refine wpQuiet_nil ?_
    intro w4 hw'
    obtain ⟨⟨dq, osq⟩, hw2⟩ := hw'
    have hb4 := below_regrown (w.alloc (.cells #[.int .i64 o, .int .i64 0, .string none8, .slice (some ⟨b, i, none⟩) 2 c] 33)) dq osq
    rw [← hw2] at hb4
    have HB4 := Lib.hid (below_2 HB.out hb4)
    clear hw2 hb4
    go_wp2_with fail
    go_ret
    exact ⟨ret_string (ba_eq (by rw [HV.out]; simp only [append_list, TX.out, TY.out, HG.out]; simp)), HB4.out⟩
  · have hz4 : (z == 4) = false := beq_eq_false_iff_ne.2 (by omega)
    rw [if_neg h4c] at HV
    have hw1 : IntKind.i64.wrap (z + 1) = z + 1 := IntWalk.i64_in _ (by omega)
    have HX := Lib.hid (HAX.out (lv o))
    have HY := Lib.hid (HAY.out (lv o + 1))
    have sx := HSX.out (lv o)
    have sy := HSY.out (lv o + 1)
    have TX := Lib.hid (ba_list (att (lv o) (lv x.op, tx x)))
    have TY := Lib.hid (ba_list (att (lv o + 1) (lv y.op, tx y)))
    unfold exV at HX HY
    simp only [Int.natCast_add, Int.natCast_one, hz] at HX HY
    generalize ba (att (lv o) (lv x.op, tx x)) = X at HX sx TX
    generalize ba (att (lv o + 1) (lv y.op, tx y)) = Y at HY sy TY
    clear hb hK hK2 kx ky e0 e1 e2 e3 HAX HAY HSX HSY h4c hz wx wy ix iy h1 h2 h3 h4
    go_enter Tryz.func24, Tryz.ntmps24
    go_wp2_with fail
    refine (HLV.out _).mono ?_; rintro e' w1 ⟨rfl, rfl⟩
    go_wp2_with fail
    refine wp_region_quiet_below (by kernel_rfl) (by kernel_rfl) ?_
    repeat (go_big_quiet_step (with_reducible first | exact HX.out _ _ | exact HY.out _ _ | exact HL.out _ _))
    refine wpQuiet_nil ?_
    intro w4 hw'
    obtain ⟨⟨dq, osq⟩, hw2⟩ := hw'
    have hb4 := below_regrown (w.alloc (.cells #[.int .i64 o, .int .i64 0, .string none8, .slice (some ⟨b, i, none⟩) 2 c] 33)) dq osq
    rw [← hw2] at hb4
    have HB4 := Lib.hid (below_2 HB.out hb4)
    clear hw2 hb4
    go_wp2_with fail
    go_ret
    exact ⟨ret_string (ba_eq (by rw [HV.out]; simp only [append_list, TX.out, TY.out, HG.out]; simp)), HB4.out⟩
end Go.Proofs.YtbmdadhbkdkgmaaGreatDoor.P
namespace Go.Proofs.YtbmdadhbkdkgmaaGreatDoor.P
open Go.RowKit
open L (Str isName prt size_len below_2 below_box ret_bool ret_int ret_string bytes_eq append_list)
open A

theorem ba_str (s : ByteArray) : ba (str s) = s := bytes_eq (by rw [ba_list]; rfl)
theorem quo_pair {s : ByteArray} (h : plain s = true) : L.pairS (L.qt s.data.toList) = .tuple #[.string (ba (L.quo (str s))), .int .i64 0] := by
  unfold plain at h
  rw [Bool.and_eq_true] at h
  have h1 := of_decide_eq_true h.1
  rw [L.qt_ok (by omega) h.2]
  rfl
set_option maxHeartbeats 4000000 in
set_option maxRecDepth 100000 in
theorem rtext_int (n : Int) (h0 : 0 ≤ n) (h1 : n ≤ 9223372036854775807) : RTx (.mk 1 n none8 []) := by
  intro a c w _
  have HB := Lib.hid (below_box w (exO (.mk 1 n none8 []) a c))
  have HF := Lib.hid (fun w => rformat_any n (by omega) h1 w)
  have HLV := Lib.hid (fun w => rlevel_any 1 (by decide) (by decide) w)
  rw [tx_int]
  have HT : Hid (ba (Go.Lib.itoa n) = ⟨(Go.Lib.itoa n).toArray⟩) := rfl
  rw [HT.out]
  generalize (⟨(Go.Lib.itoa n).toArray⟩ : ByteArray) = T at HF ⊢
  simp only [exV_mk, exO_mk, List.length_nil, show ((lv 1 : Nat) : Int) = 9 from rfl] at *
  clear HT
  go_enter Tryz.func24, Tryz.ntmps24
  go_wp2_with fail
  refine (HLV.out _).mono ?_; rintro e' w1 ⟨rfl, rfl⟩
  go_wp2_with fail
  refine (HF.out _).mono ?_; rintro e' w2 ⟨rfl, hb2⟩
  have HB2 := Lib.hid (below_2 HB.out hb2)
  clear hb2
  go_wp2_with fail
  go_ret
  exact ⟨rfl, HB2.out⟩
set_option maxHeartbeats 4000000 in
set_option maxRecDepth 100000 in
theorem rtext_str (s : ByteArray) (hp : plain s = true) : RTx (.mk 2 0 s []) := by
  intro a c w _
  have HB := Lib.hid (below_box w (exO (.mk 2 0 s []) a c))
  have hs64 : s.size ≤ 64 := by unfold plain at hp; rw [Bool.and_eq_true] at hp; exact of_decide_eq_true hp.1
  have HF := Lib.hid (fun w => L.quote_any s (by omega) w)
  rw [quo_pair hp] at HF
  have HLV := Lib.hid (fun w => rlevel_any 2 (by decide) (by decide) w)
  rw [tx_str]
  generalize ba (L.quo (str s)) = T at HF ⊢
  simp only [exV_mk, exO_mk, List.length_nil, show ((lv 2 : Nat) : Int) = 9 from rfl] at *
  clear hp
  go_enter Tryz.func24, Tryz.ntmps24
  go_wp2_with fail
  refine (HLV.out _).mono ?_; rintro e' w1 ⟨rfl, rfl⟩
  go_wp2_with fail
  refine (HF.out _).mono ?_; rintro e' w2 ⟨rfl, hw2⟩
  obtain rfl := hw2.symm
  go_wp2_with fail
  go_ret
  exact ⟨rfl, HB.out⟩
set_option maxHeartbeats 4000000 in
set_option maxRecDepth 100000 in
theorem rtext_var (s : ByteArray) : RTx (.mk 3 0 s []) := by
  intro a c w _
  have HB := Lib.hid (below_box w (exO (.mk 3 0 s []) a c))
  have HLV := Lib.hid (fun w => rlevel_any 3 (by decide) (by decide) w)
  rw [tx_var, ba_str]
  simp only [exV_mk, exO_mk, List.length_nil, show ((lv 3 : Nat) : Int) = 9 from rfl] at *
  go_enter Tryz.func24, Tryz.ntmps24
  go_wp2_with fail
  refine (HLV.out _).mono ?_; rintro e' w1 ⟨rfl, rfl⟩
  go_wp2_with fail
  go_ret
  exact ⟨rfl, HB.out⟩
theorem lv_high {o : Int} (h : 20 ≤ o) (h2 : o ≤ 27) : lv o = 9 := by
  have : o = 20 ∨ o = 21 ∨ o = 22 ∨ o = 23 ∨ o = 24 ∨ o = 25 ∨ o = 26 ∨ o = 27 := by omega
  rcases this with rfl | rfl | rfl | rfl | rfl | rfl | rfl | rfl <;> rfl
set_option maxHeartbeats 4000000 in
set_option maxRecDepth 100000 in
theorem rtext_nul (o : Int) (h : 25 ≤ o) (h2 : o ≤ 27) : RTx (.mk o 0 none8 []) := by
  intro a c w _
  have HB := Lib.hid (below_box w (exO (.mk o 0 none8 []) a c))
  have HLV := Lib.hid (fun w => rlevel_any o (by omega) h2 w)
  rw [lv_high (by omega) h2] at HLV
  have HWD := Lib.hid (fun w => rword_any o (by omega) h2 w)
  have HV := Lib.hid (tx_nul h)
  have hwz := wd_size o
  have HG := Lib.hid (ba_list (wd o))
  have t1 : (o == 1) = false := beq_eq_false_iff_ne.2 (by omega)
  have t2 : (o == 2) = false := beq_eq_false_iff_ne.2 (by omega)
  have t3 : (o == 3) = false := beq_eq_false_iff_ne.2 (by omega)
  have t18 : (o == 18) = false := beq_eq_false_iff_ne.2 (by omega)
  have t9 : (o == 9) = false := beq_eq_false_iff_ne.2 (by omega)
  rw [HV.out]
  generalize ba (wd o) = G at HWD hwz HG
  simp only [exV_mk, exO_mk, List.length_nil, show ((9 : Nat) : Int) = 9 from rfl] at *
  clear h h2 HV
  go_enter Tryz.func24, Tryz.ntmps24
  go_wp2_with fail
  refine (HLV.out _).mono ?_; rintro e' w1 ⟨rfl, rfl⟩
  go_wp2_with fail
  refine (HWD.out _).mono ?_; rintro e' w1 ⟨rfl, rfl⟩
  go_wp2_with fail
  go_ret
  exact ⟨ret_string (ba_eq (by rw [append_list, HG.out])), HB.out⟩
set_option maxHeartbeats 4000000 in
set_option maxRecDepth 100000 in
theorem rtext_neg (h : Nat) (o : Int) (x : Ex) (hh : h ≤ 12) (ho : o = 18 ∨ o = 9) (wx : W h x) (ix : RTx x) : RTx (.mk o 0 none8 [x]) := by
  intro a c w hK
  have hb := below_box w (exO (.mk o 0 none8 [x]) a c)
  obtain ⟨b, i, a2, c2, rfl, kx⟩ := kids1 (box_kids (c := c) hK)
  have HB := Lib.hid hb
  have HLV := Lib.hid (fun w => rlevel_any o (by omega) (by omega) w)
  have HAX := Lib.hid (fun (m : Nat) => rat_any wx (by omega) ix m a2 c2 _ kx.kids)
  have sx := att_size wx (by omega) (lv o)
  have TX := Lib.hid (ba_list (att (lv o) (lv x.op, tx x)))
  have HX := Lib.hid (HAX.out (lv o))
  have HV : Hid (tx (.mk o 0 none8 [x]) = (if o = 18 then sNot ++ [32] else [45]) ++ att (lv o) (lv x.op, tx x)) := by
    show _ = _
    rcases ho with rfl | rfl
    · rw [tx_18, if_pos rfl]; simp [lv]
    · rw [tx_9, if_neg (by decide)]; simp [lv]
  rw [HV.out]
  unfold exV at HX
  generalize ba (att (lv o) (lv x.op, tx x)) = X at HX sx TX
  obtain ⟨k0, k1, k2, k3, _⟩ := kx
  simp only [exV_mk, exO_mk, List.length_cons, List.length_nil] at *
  clear hb hK HAX HV wx ix
  rcases ho with rfl | rfl
  · simp only [show ((lv 18 : Nat) : Int) = 3 from rfl] at HX HLV
    rw [if_pos rfl]
    go_enter Tryz.func24, Tryz.ntmps24
    go_wp2_with fail
    refine (HLV.out _).mono ?_; rintro e' w1 ⟨rfl, rfl⟩
    go_wp2_with fail
    refine HX.out.mono ?_; rintro e' w2 ⟨rfl, hb2⟩
    have HB2 := Lib.hid (below_2 HB.out hb2)
    clear hb2
    go_wp2_with fail
    go_ret
    exact ⟨ret_string (ba_eq (by rw [append_list, TX.out]; rfl)), HB2.out⟩
  · simp only [show ((lv 9 : Nat) : Int) = 8 from rfl] at HX HLV
    rw [if_neg (by decide)]
    go_enter Tryz.func24, Tryz.ntmps24
    go_wp2_with fail
    refine (HLV.out _).mono ?_; rintro e' w1 ⟨rfl, rfl⟩
    go_wp2_with fail
    refine HX.out.mono ?_; rintro e' w2 ⟨rfl, hb2⟩
    have HB2 := Lib.hid (below_2 HB.out hb2)
    clear hb2
    go_wp2_with fail
    go_ret
    exact ⟨ret_string (ba_eq (by rw [append_list, TX.out]; rfl)), HB2.out⟩
set_option maxHeartbeats 4000000 in
set_option maxRecDepth 100000 in
theorem rtext_call (h : Nat) (o : Int) (x : Ex) (hh : h ≤ 12) (h1 : 20 ≤ o) (h2 : o ≤ 24) (wx : W h x) (ix : RTx x) : RTx (.mk o 0 none8 [x]) := by
  intro a c w hK
  have hb := below_box w (exO (.mk o 0 none8 [x]) a c)
  obtain ⟨b, i, a2, c2, rfl, kx⟩ := kids1 (box_kids (c := c) hK)
  have HB := Lib.hid hb
  have HLV := Lib.hid (fun w => rlevel_any o (by omega) (by omega) w)
  rw [lv_high (by omega) (by omega)] at HLV
  have HX := Lib.hid (fun (d : Nat) (os : Array Obj) => Calls.regrown_of (d := d) (os := os) (ix a2 c2 _ (kx.kids.below (below_regrown _ d os))))
  have HWD := Lib.hid (grownS (W := w.alloc (exO (.mk o 0 none8 [x]) (some ⟨b, i, none⟩) c)) (fun w => (rword_any o (by omega) (by omega) w).mono fun _ _ ⟨p, q⟩ => ⟨p, q.symm⟩))
  have sx := tx_size wx (by omega)
  have TX := Lib.hid (ba_list (tx x))
  have HV := Lib.hid (tx_calls h1 x)
  have hwz := wd_size o
  have HG := Lib.hid (ba_list (wd o))
  obtain ⟨e0, e1, e2, e3⟩ := exO_cells w (.mk o 0 none8 [x]) (some ⟨b, i, none⟩) c
  have t1 : (o == 1) = false := beq_eq_false_iff_ne.2 (by omega)
  have t2 : (o == 2) = false := beq_eq_false_iff_ne.2 (by omega)
  have t3 : (o == 3) = false := beq_eq_false_iff_ne.2 (by omega)
  have t18 : (o == 18) = false := beq_eq_false_iff_ne.2 (by omega)
  have t9 : (o == 9) = false := beq_eq_false_iff_ne.2 (by omega)
  rw [HV.out]
  unfold exV at HX
  generalize ba (tx x) = X at HX sx TX
  generalize ba (wd o) = G at HWD hwz HG
  obtain ⟨k0, k1, k2, k3, _⟩ := kx
  simp only [exV_mk, exO_mk, op_mk, n_mk, s_mk, args_mk, List.length_cons, List.length_nil, show ((9 : Nat) : Int) = 9 from rfl] at *
  have e0g := fun d os => cell_regrown e0 d os
  have e3g := fun d os => cell_regrown e3 d os
  have x0g := fun d os => cell_regrown k0 d os
  have x1g := fun d os => cell_regrown k1 d os
  have x2g := fun d os => cell_regrown k2 d os
  have x3g := fun d os => cell_regrown k3 d os
  clear hb hK HV wx ix h1 h2 e0 e1 e2 e3 k0 k1 k2 k3
  go_enter Tryz.func24, Tryz.ntmps24
  go_wp2_with fail
  refine (HLV.out _).mono ?_; rintro e' w1 ⟨rfl, rfl⟩
  go_wp2_with fail
  refine wp_region_quiet_below (by kernel_rfl) (by kernel_rfl) ?_
  repeat (go_big_quiet_step (with_reducible first | exact HX.out _ _ | exact HWD.out _ _))
  refine wpQuiet_nil ?_
  intro w4 hw'
  obtain ⟨⟨dq, osq⟩, hw2⟩ := hw'
  have hb4 := below_regrown (w.alloc (.cells #[.int .i64 o, .int .i64 0, .string none8, .slice (some ⟨b, i, none⟩) 1 c] 33)) dq osq
  rw [← hw2] at hb4
  have HB4 := Lib.hid (below_2 HB.out hb4)
  clear hw2 hb4
  go_wp2_with fail
  go_ret
  exact ⟨ret_string (ba_eq (by simp only [append_list, TX.out, HG.out]; simp)), HB4.out⟩
/-- text of whatever valid expression -/
theorem rtext_any {h : Nat} {e : Ex} (w : W h e) : h ≤ 13 → RTx e := by
  induction w with
  | int h n h1 h2 => exact fun _ => rtext_int n h1 h2
  | str h s hp => exact fun _ => rtext_str s hp
  | var h s hn => exact fun _ => rtext_var s
  | nul h o h1 h2 => exact fun _ => rtext_nul o h1 h2
  | neg h o a ho wa ih => exact fun hh => rtext_neg h o a (by omega) ho wa (ih (by omega))
  | call h o a h1 h2 wa ih => exact fun hh => rtext_call h o a (by omega) h1 h2 wa (ih (by omega))
  | bin h o a b h1 h2 h3 h4 wa wb iha ihb => exact fun hh => rtext_bin h o a b (by omega) h1 h2 h3 h4 wa wb (iha (by omega)) (ihb (by omega))
mutual
theorem nB_ok : ∀ e : Ex, okE e → nB e
  | .mk o n s l, h => by rw [okE] at h; rw [nB]; exact ⟨h.2.1.2, nBs_ok l h.2.2.2.2⟩
theorem nBs_ok : ∀ l : List Ex, okEs l → nBs l
  | [], _ => by rw [nBs]; trivial
  | e :: r, h => by rw [okEs] at h; rw [nBs]; exact ⟨nB_ok e h.1, nBs_ok r h.2⟩
end
theorem w_here' {e : Ex} (hok : okE e) (h : vE e 1 = 0) : W 12 e := w_of 12 e 1 rfl h (nB_ok e hok)
set_option maxHeartbeats 2000000 in
set_option maxRecDepth 100000 in
theorem rexpr_any (e : Ex) (a : Option Addr) (c : Nat) (hok : okE e) (w : World) (hK : A.Kids w a e.args) :
    Calls Tryz.prog 11 #[exV e a c] w fun e' w' => e' = .returned (.string (ba (exprT e))) ∧ Below w.heap.size w w' := by
  have hw := below_box w (exO e a c)
  have HC := Lib.hid (rvalidExpr_any e a c hok _ (hK.below hw))
  have HW := Lib.hid hw
  have HBL := Lib.hid (fun w' hb => box_later (w := w) (w' := w') (e := e) (a := a) (c := c) hb)
  by_cases hv : vE e 1 = 0
  · have HT := Lib.hid (fun w' hb => rtext_any (w_here' hok hv) (by decide) a c w' ((hK.below hw).below hb))
    have HV : Hid (exprT e = tx e) := by show _ = _; unfold exprT; rw [if_pos hv]
    rw [HV.out]
    rw [hv] at HC
    generalize ba (tx e) = T at HT ⊢
    unfold exO at HC HW HBL HT
    unfold exV at *
    clear hv hw hK hok HV
    go_enter Tryz.func11, Tryz.ntmps11
    go_wp2_with fail
    refine HC.out.mono ?_; rintro e' w1 ⟨rfl, hb1⟩
    have HB1 := Lib.hid hb1
    obtain ⟨c0, c1, c2, c3⟩ := HBL.out _ hb1
    clear hb1
    go_wp2_with fail
    refine (HT.out _ HB1.out).mono ?_; rintro e' w2 ⟨rfl, hb2⟩
    have HB2 := Lib.hid (below_2 (below_2 HW.out HB1.out) hb2)
    clear hb2
    go_wp2_with fail
    go_ret
    exact ⟨rfl, HB2.out⟩
  · have HV : Hid (exprT e = []) := by show _ = _; unfold exprT; rw [if_neg hv]
    rw [HV.out]
    have bx : (vE e 1 != 0) = true := bne_iff_ne.2 hv
    generalize vE e 1 = x at HC bx
    unfold exO at HC HW
    unfold exV at *
    clear hv hw hK hok HV HBL
    go_enter Tryz.func11, Tryz.ntmps11
    go_wp2_with fail
    refine HC.out.mono ?_; rintro e' w1 ⟨rfl, hb1⟩
    have HB1 := Lib.hid (below_2 HW.out hb1)
    clear hb1
    go_wp2_with fail
    go_ret
    exact ⟨rfl, HB1.out⟩
end Go.Proofs.YtbmdadhbkdkgmaaGreatDoor.P
