/-
  What the program's functions of layer 9 return: what the tables hold; textAt over exprText: contracts.
  What the program's functions of layer 9 return: binaryText, unitText, exprText, Expr: contracts.
  What the program's functions of layer 9 return: unitText, exprText, Expr: contracts.
  What the program's functions of layer 9 return: exprText of whatever valid expression, Expr: contracts.
-/
import Derived.Test.YtbmdadhbkdkgmaaDoorPC
import Derived.Test.YtbmdadhbkdkgmaaDoorGS
import Derived.Lib.QuietBelow
import Derived.IntWalk
namespace Go.Proofs.YtbmdadhbkdkgmaaDoor.P
open Go.RowKit
open L (Str isName prt size_len below_2 below_box ret_bool ret_int ret_string bytes_eq append_list)
open A

theorem oba_list (l : Str) : (ba l).data.toList = l := by unfold ba; simp
theorem oba_eq {a : ByteArray} {l : Str} (h : a.data.toList = l) : a = ba l := bytes_eq (by rw [h, oba_list])
theorem oba_size (l : Str) : (ba l).size = l.length := by rw [size_len, oba_list]
theorem below_now {W w4 : World} {d : Nat} {os : Array Obj} (h : w4 = Sort.grow (redrawn W d) os) : Below W.heap.size W w4 := h ▸ below_regrown W d os
/-- how the table writes an operator -/
def opx (n : Nat) : Str := if n ≤ 3 then [] else if n = 9 then [45] else if n = 18 then [110, 111, 116, 32] else if 20 ≤ n then wd n else sg n
/-- what the tables hold -/
structure Tab (w : World) : Prop where
  lev : ∀ n : Nat, 1 ≤ n → n ≤ 27 → w.cell? ⟨0, n * 2, none⟩ = some (.int .i64 ((lv n : Nat) : Int))
  txt : ∀ n : Nat, 1 ≤ n → n ≤ 27 → w.cell? ⟨0, n * 2 + 1, none⟩ = some (.string (ba (opx n)))
  tys : ∀ n : Nat, 1 ≤ n → n ≤ 3 → w.cell? ⟨1, n, none⟩ = some (.string (ba (tyW n)))
  pow : Lib.TabIs Tryd.prog w "internal/strconv.uint64pow10" .u64 Lib.pow10Tab
theorem pow_named : Tryd.prog.globalNamed "internal/strconv.uint64pow10" = some 3 := by kernel_rfl
theorem pow_below {w w' : World} (h : Lib.TabIs Tryd.prog w "internal/strconv.uint64pow10" .u64 Lib.pow10Tab) (hb : Below w.heap.size w w') : Lib.TabIs Tryd.prog w' "internal/strconv.uint64pow10" .u64 Lib.pow10Tab := by
  have hc := h.cell pow_named 0 (by decide)
  have hlt : 3 < w.heap.size := block_lt_of_cell hc
  unfold Lib.TabIs World.var? at *
  rw [pow_named] at *
  simp only [Option.bind_some] at *
  rw [hb.block _ hlt]
  exact h
theorem Tab.below {w w' : World} (h : Tab w) (hb : Below w.heap.size w w') : Tab w' :=
  ⟨fun n h1 h2 => (hb.cell (block_lt_of_cell (h.lev n h1 h2))).trans (h.lev n h1 h2), fun n h1 h2 => (hb.cell (block_lt_of_cell (h.txt n h1 h2))).trans (h.txt n h1 h2), fun n h1 h2 => (hb.cell (block_lt_of_cell (h.tys n h1 h2))).trans (h.tys n h1 h2), pow_below h.pow hb⟩
/-- what exprText returns -/
def OTx (e : Ex) : Prop := ∀ (a : Option Addr) (c : Nat) (w : World), Tab w → A.Kids w a e.args → Calls Tryd.prog 25 #[exV e a c] w fun e' w' => e' = .returned (.string (ba (tx e))) ∧ Below w.heap.size w w'
theorem opow13 {h : Nat} (hh : h ≤ 13) : 140 * 2 ^ h ≤ 1146880 := by
  have : 2 ^ h ≤ 2 ^ 13 := Nat.pow_le_pow_right (by decide) hh
  omega
theorem otx_size {h : Nat} {e : Ex} (w : W h e) (hh : h ≤ 13) : (ba (tx e)).size ≤ 1146880 := by
  rw [oba_size]
  have := tx_len w
  have := opow13 hh
  omega
theorem ow_op {h : Nat} {e : Ex} (w : W h e) : ∃ n : Nat, e.op = (n : Int) ∧ 1 ≤ n ∧ n ≤ 27 := by
  have : 1 ≤ e.op ∧ e.op ≤ 27 := by cases w <;> simp only [Ex.op] <;> omega
  exact ⟨e.op.toNat, by omega, by omega, by omega⟩
set_option maxHeartbeats 1000000 in
set_option maxRecDepth 100000 in
theorem otextAt_any {h : Nat} {e : Ex} (hw : W h e) (hh : h ≤ 13) (hT : OTx e) (m : Nat) (a : Option Addr) (c : Nat) (w : World) (ht : Tab w) (hK : A.Kids w a e.args) :
    Calls Tryd.prog 46 #[exV e a c, .int .i64 (m : Int)] w fun e' w' => e' = .returned (.string (ba (att m (lv e.op, tx e)))) ∧ Below w.heap.size w w' := by
  obtain ⟨n, hn, n1, n2⟩ := ow_op hw
  obtain ⟨o, k, s, l⟩ := e
  simp only [op_mk] at hn
  subst hn
  have hb := below_box w (exO (.mk (n : Int) k s l) a c)
  have ht2 := ht.below hb
  have HT := Lib.hid (hT a c _ ht2 (hK.below hb))
  have HB := Lib.hid hb
  have hz := otx_size hw hh
  have HV : Hid (att m (lv (n : Int), tx (.mk (n : Int) k s l)) = if lv (n : Int) < m then 40 :: (tx (.mk (n : Int) k s l) ++ [41]) else tx (.mk (n : Int) k s l)) := rfl
  have HX := Lib.hid (oba_list (tx (.mk (n : Int) k s l)))
  have hc := ht2.lev n n1 n2
  simp only [op_mk]
  rw [HV.out]
  generalize ba (tx (.mk (n : Int) k s l)) = T at HT hz HX
  generalize lv (n : Int) = L at hc ⊢
  simp only [exV_mk, exO_mk] at *
  clear hb hT hK hw HV ht2 ht
  by_cases hl : L < m
  · have bl : decide (L < m) = true := decide_eq_true hl
    rw [if_pos hl]
    clear hl
    go_enter Tryd.func46, Tryd.ntmps46
    go_wp2_with fail
    refine HT.out.mono ?_; rintro e' w2 ⟨rfl, hb2⟩
    have HB2 := Lib.hid (below_2 HB.out hb2)
    clear hb2
    go_wp2_with fail
    go_ret
    exact ⟨ret_string (oba_eq (by rw [append_list, append_list, HX.out]; rfl)), HB2.out⟩
  · have bl : decide (L < m) = false := decide_eq_false hl
    rw [if_neg hl]
    clear hl
    go_enter Tryd.func46, Tryd.ntmps46
    go_wp2_with fail
    refine HT.out.mono ?_; rintro e' w2 ⟨rfl, hb2⟩
    have HB2 := Lib.hid (below_2 HB.out hb2)
    clear hb2
    go_wp2_with fail
    go_ret
    exact ⟨ret_string (oba_eq HX.out), HB2.out⟩
end Go.Proofs.YtbmdadhbkdkgmaaDoor.P
namespace Go.Proofs.YtbmdadhbkdkgmaaDoor.P
open Go.RowKit
open L (Str isName prt size_len below_2 below_box ret_bool ret_int ret_string bytes_eq append_list)
open A

/-- the cells of an expression that lies at a place -/
structure OKid (w : World) (e : Ex) (b i : Nat) (a : Option Addr) (c : Nat) : Prop where
  k0 : w.cell? ⟨b, i, none⟩ = some (.int .i64 e.op)
  k1 : w.cell? ⟨b, i + 1, none⟩ = some (.int .i64 e.n)
  k2 : w.cell? ⟨b, i + 2, none⟩ = some (.string e.s)
  k3 : w.cell? ⟨b, i + 3, none⟩ = some (.slice a e.args.length c)
  kids : A.Kids w a e.args
theorem okid_of {w : World} {e : Ex} {b i : Nat} (h : ExAt w e b i) : ∃ a c, OKid w e b i a c := by
  obtain ⟨d0, d1, d2, a, c, d3, hk⟩ := h.open
  exact ⟨a, c, d0, d1, d2, d3, hk⟩
theorem okids1 {w : World} {a : Option Addr} {x : Ex} (h : A.Kids w a [x]) : ∃ b i a2 c2, a = some ⟨b, i, none⟩ ∧ OKid w x b i a2 c2 := by
  obtain ⟨b, i, rfl, hat⟩ := h.open (k := 0) (by simp)
  simp only [Nat.zero_mul, Nat.add_zero, List.getElem_cons_zero] at hat
  obtain ⟨a2, c2, hk⟩ := okid_of hat
  exact ⟨b, i, a2, c2, rfl, hk⟩
theorem okids2 {w : World} {a : Option Addr} {x y : Ex} (h : A.Kids w a [x, y]) : ∃ b i a2 c2 a3 c3, a = some ⟨b, i, none⟩ ∧ OKid w x b i a2 c2 ∧ OKid w y b (i + 4) a3 c3 := by
  rcases h with h | ⟨b, i, rfl, h⟩
  · cases h
  · rw [ExsAt, ExsAt] at h
    obtain ⟨a2, c2, hk⟩ := okid_of h.1
    obtain ⟨a3, c3, hk3⟩ := okid_of h.2.1
    exact ⟨b, i, a2, c2, a3, c3, rfl, hk, hk3⟩
theorem obox_kids {w : World} {e : Ex} {a : Option Addr} {c : Nat} (h : A.Kids w a e.args) : A.Kids (w.alloc (exO e a c)) a e.args := h.below (below_box w _)
theorem otx_int (n : Int) : tx (.mk 1 n none8 []) = Go.Lib.itoa n := rfl
theorem otx_str (s : ByteArray) : tx (.mk 2 0 s []) = L.quo (str s) := rfl
theorem otx_var (s : ByteArray) : tx (.mk 3 0 s []) = str s := rfl
theorem otx_nul {n : Nat} (h : 25 ≤ n) : tx (.mk (n : Int) 0 none8 []) = opx n ++ [40, 41] := by
  rw [tx, txs]; unfold txN opx
  rw [if_neg (by omega), if_neg (by omega), if_neg (by omega), if_neg (by omega), if_neg (by omega), if_neg (by omega), if_pos (by omega)]
theorem otx_neg (o : Int) (a : Ex) (h : o = 18 ∨ o = 9) : tx (.mk o 0 none8 [a]) = opx o.toNat ++ att (lv o) (lv a.op, tx a) := by
  rcases h with rfl | rfl
  · rw [tx, txs, txs]; rfl
  · rw [tx, txs, txs]; rfl
theorem otx_call {n : Nat} (h : 20 ≤ n) (a : Ex) : tx (.mk (n : Int) 0 none8 [a]) = opx n ++ 40 :: (tx a ++ [41]) := by
  rw [tx_call (by omega)]; unfold opx
  rw [if_neg (by omega), if_neg (by omega), if_neg (by omega), if_pos h]
theorem opx_bin {n : Nat} (h1 : 4 ≤ n) (h2 : n ≤ 19) (h3 : n ≠ 9) (h4 : n ≠ 18) : opx n = sg n := by
  unfold opx
  rw [if_neg (by omega), if_neg (by omega), if_neg (by omega), if_neg (by omega)]
theorem otx_two {n : Nat} (h1 : 4 ≤ n) (h2 : n ≤ 19) (h3 : n ≠ 9) (h4 : n ≠ 18) (a b : Ex) : tx (.mk (n : Int) 0 none8 [a, b]) = att (if lv n = 4 then 5 else lv n) (lv a.op, tx a) ++ 32 :: (opx n ++ 32 :: att (lv n + 1) (lv b.op, tx b)) := by
  rw [opx_bin h1 h2 h3 h4, tx, txs, txs, txs]; unfold txN
  rw [if_neg (by omega), if_neg (by omega), if_neg (by omega)]
  simp only
  by_cases h : lv (n : Int) = 4
  · rw [if_pos h, if_pos h, h]
  · rw [if_neg h, if_neg h]
theorem oatt_size {h : Nat} {e : Ex} (w : W h e) (hh : h ≤ 13) (m : Nat) : (ba (att m (lv e.op, tx e))).size ≤ 1146890 := by
  rw [oba_size]
  have := att_len m (lv e.op, tx e)
  have := tx_len w
  have := opow13 hh
  simp only at *
  omega
theorem opx_size (n : Nat) : (ba (opx n)).size ≤ 6 := by
  rw [oba_size]; unfold opx
  have h1 := wd_len n
  have h2 := sg_len n
  repeat' split
  all_goals first | (simp only [List.length_cons, List.length_nil]; omega) | omega
theorem olv_bin {n : Nat} (h1 : 4 ≤ n) (h2 : n ≤ 19) (h3 : n ≠ 9) (h4 : n ≠ 18) : 1 ≤ lv n ∧ lv n ≤ 7 ∧ lv n ≠ 3 := by
  have : n = 4 ∨ n = 5 ∨ n = 6 ∨ n = 7 ∨ n = 8 ∨ n = 10 ∨ n = 11 ∨ n = 12 ∨ n = 13 ∨ n = 14 ∨ n = 15 ∨ n = 16 ∨ n = 17 ∨ n = 19 := by omega
  rcases this with rfl | rfl | rfl | rfl | rfl | rfl | rfl | rfl | rfl | rfl | rfl | rfl | rfl | rfl <;> decide
/-- binaryText, whatever level the left operand has at least -/
theorem obin_parts (n : Nat) (x y : Ex) (m : Nat) : ba (att m (lv x.op, tx x) ++ 32 :: (opx n ++ 32 :: att (lv n + 1) (lv y.op, tx y))) = ba (att m (lv x.op, tx x)) ++ ⟨#[32]⟩ ++ ba (opx n) ++ ⟨#[32]⟩ ++ ba (att (lv n + 1) (lv y.op, tx y)) := by
  symm
  refine oba_eq ?_
  simp only [append_list, oba_list]
  simp
set_option maxHeartbeats 2000000 in
set_option maxRecDepth 100000 in
theorem obinary_any (h n : Nat) (x y : Ex) (hh : h ≤ 12) (h1 : 4 ≤ n) (h2 : n ≤ 19) (h3 : n ≠ 9) (h4 : n ≠ 18) (wx : W h x) (wy : W h y) (ix : OTx x) (iy : OTx y) (m : Nat) (a : Option Addr) (c : Nat) (w : World) (ht : Tab w) (hK : A.Kids w a [x, y]) :
    Calls Tryd.prog 47 #[.agg #[.int .i64 (n : Int), .int .i64 0, .string none8, .slice a 2 c], .int .i64 (m : Int)] w fun e' w' => e' = .returned (.string (ba (att m (lv x.op, tx x) ++ 32 :: (opx n ++ 32 :: att (lv n + 1) (lv y.op, tx y))))) ∧ Below w.heap.size w w' := by
  have hb := below_box w (exO (.mk (n : Int) 0 none8 [x, y]) a c)
  have ht2 := ht.below hb
  obtain ⟨b, i, a2, c2, a3, c3, rfl, kx, ky⟩ := okids2 (obox_kids (e := .mk (n : Int) 0 none8 [x, y]) (c := c) hK)
  have HX := Lib.hid (fun (d : Nat) (os : Array Obj) => Calls.regrown_of (d := d) (os := os) (otextAt_any wx (by omega) ix m a2 c2 _ (ht2.below (below_regrown _ d os)) (kx.kids.below (below_regrown _ d os))))
  have HY := Lib.hid (fun (d : Nat) (os : Array Obj) => Calls.regrown_of (d := d) (os := os) (otextAt_any wy (by omega) iy (lv n + 1) a3 c3 _ (ht2.below (below_regrown _ d os)) (ky.kids.below (below_regrown _ d os))))
  have sx := oatt_size wx (by omega) m
  have sy := oatt_size wy (by omega) (lv n + 1)
  have hsg := opx_size n
  obtain ⟨e0, e1, e2, e3⟩ := exO_cells w (.mk (n : Int) 0 none8 [x, y]) (some ⟨b, i, none⟩) c
  have HB := Lib.hid hb
  have hL := olv_bin h1 h2 h3 h4
  have t0 := ht2.lev n (by omega) (by omega)
  have t1 := ht2.txt n (by omega) (by omega)
  rw [obin_parts]
  generalize lv (n : Int) = L at *
  generalize ba (opx n) = G at hsg t1 ⊢
  unfold exV at HX HY
  simp only [Int.natCast_add, Int.natCast_one] at HY
  generalize ba (att m (lv x.op, tx x)) = X at HX sx ⊢
  generalize ba (att (L + 1) (lv y.op, tx y)) = Y at HY sy ⊢
  simp only [exO_mk, op_mk, n_mk, s_mk, args_mk, List.length_cons, List.length_nil] at *
  have e0g := fun d os => cell_regrown e0 d os
  have e3g := fun d os => cell_regrown e3 d os
  have t1g := fun d os => cell_regrown t1 d os
  have x0g := fun d os => cell_regrown kx.k0 d os
  have x1g := fun d os => cell_regrown kx.k1 d os
  have x2g := fun d os => cell_regrown kx.k2 d os
  have x3g := fun d os => cell_regrown kx.k3 d os
  have y0g := fun d os => cell_regrown ky.k0 d os
  have y1g := fun d os => cell_regrown ky.k1 d os
  have y2g := fun d os => cell_regrown ky.k2 d os
  have y3g := fun d os => cell_regrown ky.k3 d os
  clear hb hK kx ky e0 e1 e2 e3 ht ht2 t1 wx wy ix iy h3 h4
  go_enter Tryd.func47, Tryd.ntmps47
  go_wp2_with fail
  refine wp_region_quiet_below (by kernel_rfl) (by kernel_rfl) ?_
  repeat (go_big_quiet_step (with_reducible first | exact HX.out _ _ | exact HY.out _ _))
  refine wpQuiet_nil ?_
  intro w4 hw'
  obtain ⟨⟨dq, osq⟩, hw2⟩ := hw'
  have hb4 := below_now hw2
  have HB4 := Lib.hid (below_2 HB.out hb4)
  clear hw2 hb4
  go_wp2_with fail
  go_ret
  exact ⟨rfl, HB4.out⟩
end Go.Proofs.YtbmdadhbkdkgmaaDoor.P
namespace Go.Proofs.YtbmdadhbkdkgmaaDoor.P
open Go.RowKit
open L (Str isName prt size_len below_2 below_box ret_bool ret_int ret_string bytes_eq append_list)
open A

theorem oba_str (s : ByteArray) : ba (str s) = s := bytes_eq (by rw [oba_list]; rfl)
theorem oquo_pair {s : ByteArray} (h : plain s = true) : L.pairS (L.qt s.data.toList) = .tuple #[.string (ba (L.quo (str s))), .int .i64 0] := by
  unfold plain at h
  rw [Bool.and_eq_true] at h
  have h1 := of_decide_eq_true h.1
  rw [L.qt_ok (by omega) h.2]
  rfl
theorem oclone_any (s : ByteArray) (hs : s.size ≤ 1000000) (w : World) : Calls Tryd.prog 56 #[.string s] w fun e w' => e = .returned (.string s) ∧ Below w.heap.size w w' := by
  have HC := Lib.hid (fun w => Tryd.stringslite_Clone s w (by omega))
  go_enter Tryd.func56, Tryd.ntmps56
  go_wp2_with fail
  refine (HC.out _).mono ?_; rintro e w1 ⟨rfl, hb⟩
  go_wp2_with fail
  go_ret
  exact ⟨rfl, hb⟩
/-- what unitText returns -/
def OUn (e : Ex) : Prop := ∀ (a : Option Addr) (c : Nat) (w : World), Tab w → A.Kids w a e.args → Calls Tryd.prog 45 #[exV e a c] w fun e' w' => e' = .returned (.string (ba (tx e))) ∧ Below w.heap.size w w'
set_option maxHeartbeats 2000000 in
set_option maxRecDepth 100000 in
theorem ounit_int (n : Int) (h0 : 0 ≤ n) (h1 : n ≤ 9223372036854775807) : OUn (.mk 1 n none8 []) := by
  intro a c w ht _
  have hb := below_box w (exO (.mk 1 n none8 []) a c)
  have HB := Lib.hid hb
  have HF := Lib.hid (format_any n (by omega) h1 _ (ht.below hb).pow)
  rw [otx_int]
  have HT : Hid (ba (Go.Lib.itoa n) = ⟨(Go.Lib.itoa n).toArray⟩) := rfl
  rw [HT.out]
  generalize (⟨(Go.Lib.itoa n).toArray⟩ : ByteArray) = T at HF ⊢
  simp only [exV_mk, exO_mk, List.length_nil] at *
  clear HT ht hb
  go_enter Tryd.func45, Tryd.ntmps45
  go_wp2_with fail
  refine HF.out.mono ?_; rintro e' w2 ⟨rfl, hb2⟩
  have HB2 := Lib.hid (below_2 HB.out hb2)
  clear hb2
  go_wp2_with fail
  go_ret
  exact ⟨rfl, HB2.out⟩
set_option maxHeartbeats 2000000 in
set_option maxRecDepth 100000 in
theorem ounit_str (s : ByteArray) (hp : plain s = true) : OUn (.mk 2 0 s []) := by
  intro a c w ht _
  have hb := below_box w (exO (.mk 2 0 s []) a c)
  have HB := Lib.hid hb
  have HF := Lib.hid (fun w => L.oquote_any s w)
  rw [oquo_pair hp] at HF
  rw [otx_str]
  generalize ba (L.quo (str s)) = T at HF ⊢
  simp only [exV_mk, exO_mk, List.length_nil] at *
  clear hp hb ht
  go_enter Tryd.func45, Tryd.ntmps45
  go_wp2_with fail
  refine (HF.out _).mono ?_; rintro e' w2 ⟨rfl, hb2⟩
  have HB2 := Lib.hid (below_2 HB.out hb2)
  clear hb2
  go_wp2_with fail
  go_ret
  exact ⟨rfl, HB2.out⟩
set_option maxHeartbeats 2000000 in
set_option maxRecDepth 100000 in
theorem ounit_var (s : ByteArray) (hn : nam s = true) : OUn (.mk 3 0 s []) := by
  intro a c w ht _
  have hb := below_box w (exO (.mk 3 0 s []) a c)
  have HB := Lib.hid hb
  have hz : s.size ≤ 16 := nam_len hn
  have HF := Lib.hid (fun w => oclone_any s (by omega) w)
  rw [otx_var, oba_str]
  simp only [exV_mk, exO_mk, List.length_nil] at *
  clear hb ht hn
  go_enter Tryd.func45, Tryd.ntmps45
  go_wp2_with fail
  refine (HF.out _).mono ?_; rintro e' w2 ⟨rfl, hb2⟩
  have HB2 := Lib.hid (below_2 HB.out hb2)
  clear hb2
  go_wp2_with fail
  go_ret
  exact ⟨rfl, HB2.out⟩
set_option maxHeartbeats 2000000 in
set_option maxRecDepth 100000 in
theorem ounit_nul (n : Nat) (h : 25 ≤ n) (h2 : n ≤ 27) : OUn (.mk (n : Int) 0 none8 []) := by
  intro a c w ht _
  have hb := below_box w (exO (.mk (n : Int) 0 none8 []) a c)
  have HB := Lib.hid hb
  have hc := (ht.below hb).txt n (by omega) h2
  have hg := opx_size n
  have HV := Lib.hid (otx_nul h)
  have HG := Lib.hid (oba_list (opx n))
  rw [HV.out]
  generalize ba (opx n) = G at hc hg HG
  simp only [exV_mk, exO_mk, List.length_nil] at *
  clear ht hb HV
  have : n = 25 ∨ n = 26 ∨ n = 27 := by omega
  rcases this with rfl | rfl | rfl
  all_goals
    clear h h2
    simp only [show ((25 : Nat) : Int) = 25 from rfl, show ((26 : Nat) : Int) = 26 from rfl, show ((27 : Nat) : Int) = 27 from rfl, Nat.reduceMul, Nat.reduceAdd] at *
    go_enter Tryd.func45, Tryd.ntmps45
    go_wp2_with fail
    go_ret
    exact ⟨ret_string (oba_eq (by rw [append_list, HG.out])), HB.out⟩
set_option maxHeartbeats 2000000 in
set_option maxRecDepth 100000 in
theorem ounit_call (h n : Nat) (x : Ex) (hh : h ≤ 12) (h1 : 20 ≤ n) (h2 : n ≤ 24) (wx : W h x) (ix : OTx x) : OUn (.mk (n : Int) 0 none8 [x]) := by
  intro a c w ht hK
  have hb := below_box w (exO (.mk (n : Int) 0 none8 [x]) a c)
  have ht2 := ht.below hb
  obtain ⟨b, i, a2, c2, rfl, kx⟩ := okids1 (obox_kids (c := c) hK)
  have HB := Lib.hid hb
  have hc := ht2.txt n (by omega) (by omega)
  have HX := Lib.hid (fun (d : Nat) (os : Array Obj) => Calls.regrown_of (d := d) (os := os) (ix a2 c2 _ (ht2.below (below_regrown _ d os)) (kx.kids.below (below_regrown _ d os))))
  have sx := otx_size wx (by omega)
  have TX := Lib.hid (oba_list (tx x))
  have HV := Lib.hid (otx_call h1 x)
  have hg := opx_size n
  have HG := Lib.hid (oba_list (opx n))
  obtain ⟨e0, e1, e2, e3⟩ := exO_cells w (.mk (n : Int) 0 none8 [x]) (some ⟨b, i, none⟩) c
  have t1 : ((n : Int) == 1) = false := beq_eq_false_iff_ne.2 (by omega)
  have t2 : ((n : Int) == 2) = false := beq_eq_false_iff_ne.2 (by omega)
  have t3 : ((n : Int) == 3) = false := beq_eq_false_iff_ne.2 (by omega)
  have t25 : ((n : Int) == 25) = false := beq_eq_false_iff_ne.2 (by omega)
  have t26 : ((n : Int) == 26) = false := beq_eq_false_iff_ne.2 (by omega)
  have t27 : ((n : Int) == 27) = false := beq_eq_false_iff_ne.2 (by omega)
  rw [HV.out]
  unfold exV at HX
  generalize ba (tx x) = X at HX sx TX
  generalize ba (opx n) = G at hc hg HG
  obtain ⟨k0, k1, k2, k3, _⟩ := kx
  simp only [exV_mk, exO_mk, op_mk, n_mk, s_mk, args_mk, List.length_cons, List.length_nil] at *
  have e0g := fun d os => cell_regrown e0 d os
  have e3g := fun d os => cell_regrown e3 d os
  have hcg := fun d os => cell_regrown hc d os
  have x0g := fun d os => cell_regrown k0 d os
  have x1g := fun d os => cell_regrown k1 d os
  have x2g := fun d os => cell_regrown k2 d os
  have x3g := fun d os => cell_regrown k3 d os
  clear hb hK HV wx ix e0 e1 e2 e3 k0 k1 k2 k3 ht ht2 hc
  go_enter Tryd.func45, Tryd.ntmps45
  go_wp2_with fail
  refine wp_region_quiet_below (by kernel_rfl) (by kernel_rfl) ?_
  repeat (go_big_quiet_step (with_reducible exact HX.out _ _))
  refine wpQuiet_nil ?_
  intro w4 hw'
  obtain ⟨⟨dq, osq⟩, hw2⟩ := hw'
  have hb4 := below_now hw2
  have HB4 := Lib.hid (below_2 HB.out hb4)
  clear hw2 hb4
  go_wp2_with fail
  go_ret
  exact ⟨ret_string (oba_eq (by simp only [append_list, TX.out, HG.out]; simp)), HB4.out⟩
set_option maxHeartbeats 2000000 in
set_option maxRecDepth 100000 in
theorem oexpr_unit (n : Nat) (k : Int) (s : ByteArray) (l : List Ex) (h1 : 1 ≤ n) (h2 : n ≤ 27) (h9 : lv n = 9) (H : OUn (.mk (n : Int) k s l)) : OTx (.mk (n : Int) k s l) := by
  intro a c w ht hK
  have hb := below_box w (exO (.mk (n : Int) k s l) a c)
  have ht2 := ht.below hb
  have HB := Lib.hid hb
  have hc := ht2.lev n h1 h2
  rw [h9] at hc
  have HU := Lib.hid (H a c _ ht2 (hK.below hb))
  generalize ba (tx (.mk (n : Int) k s l)) = T at HU ⊢
  simp only [exV_mk, exO_mk, args_mk, show ((9 : Nat) : Int) = 9 from rfl] at *
  clear hb hK ht ht2 H h9
  go_enter Tryd.func25, Tryd.ntmps25
  go_wp2_with fail
  refine HU.out.mono ?_; rintro e' w2 ⟨rfl, hb2⟩
  have HB2 := Lib.hid (below_2 HB.out hb2)
  clear hb2
  go_wp2_with fail
  go_ret
  exact ⟨rfl, HB2.out⟩
set_option maxHeartbeats 2000000 in
set_option maxRecDepth 100000 in
theorem oexpr_bin (h n : Nat) (x y : Ex) (hh : h ≤ 12) (h1 : 4 ≤ n) (h2 : n ≤ 19) (h3 : n ≠ 9) (h4 : n ≠ 18) (wx : W h x) (wy : W h y) (ix : OTx x) (iy : OTx y) : OTx (.mk (n : Int) 0 none8 [x, y]) := by
  intro a c w ht hK
  have hb := below_box w (exO (.mk (n : Int) 0 none8 [x, y]) a c)
  have ht2 := ht.below hb
  have HB := Lib.hid hb
  have hc := ht2.lev n (by omega) (by omega)
  have HU := Lib.hid (fun m => obinary_any h n x y hh h1 h2 h3 h4 wx wy ix iy m a c _ ht2 (hK.below hb))
  have hL := olv_bin h1 h2 h3 h4
  rw [otx_two h1 h2 h3 h4]
  generalize lv (n : Int) = L at *
  obtain ⟨L1, L7, L3⟩ := hL
  have b9 : ((L : Int) == 9) = false := beq_eq_false_iff_ne.2 (by omega)
  have b3 : ((L : Int) == 3) = false := beq_eq_false_iff_ne.2 (by omega)
  have b8 : ((L : Int) == 8) = false := beq_eq_false_iff_ne.2 (by omega)
  by_cases h4c : L = 4
  · have b4 : ((L : Int) == 4) = true := beq_iff_eq.2 (by omega)
    rw [if_pos h4c]
    have HU := Lib.hid (HU.out 5)
    generalize ba (att 5 (lv x.op, tx x) ++ 32 :: (opx n ++ 32 :: att (L + 1) (lv y.op, tx y))) = T at HU ⊢
    subst h4c
    simp only [exV_mk, exO_mk, args_mk, List.length_cons, List.length_nil, show ((4 : Nat) : Int) = 4 from rfl, show ((5 : Nat) : Int) = 5 from rfl] at *
    clear hb hK ht ht2 wx wy ix iy h3 h4 b9 b3 b8 b4
    go_enter Tryd.func25, Tryd.ntmps25
    go_wp2_with fail
    refine HU.out.mono ?_; rintro e' w2 ⟨rfl, hb2⟩
    have HB2 := Lib.hid (below_2 HB.out hb2)
    clear hb2
    go_wp2_with fail
    go_ret
    exact ⟨rfl, HB2.out⟩
  · have b4 : ((L : Int) == 4) = false := beq_eq_false_iff_ne.2 (by omega)
    rw [if_neg h4c]
    have HU := Lib.hid (HU.out L)
    generalize ba (att L (lv x.op, tx x) ++ 32 :: (opx n ++ 32 :: att (L + 1) (lv y.op, tx y))) = T at HU ⊢
    simp only [exV_mk, exO_mk, args_mk, List.length_cons, List.length_nil] at *
    clear hb hK ht ht2 wx wy ix iy h3 h4 h4c
    go_enter Tryd.func25, Tryd.ntmps25
    go_wp2_with fail
    refine HU.out.mono ?_; rintro e' w2 ⟨rfl, hb2⟩
    have HB2 := Lib.hid (below_2 HB.out hb2)
    clear hb2
    go_wp2_with fail
    go_ret
    exact ⟨rfl, HB2.out⟩
end Go.Proofs.YtbmdadhbkdkgmaaDoor.P
namespace Go.Proofs.YtbmdadhbkdkgmaaDoor.P
open Go.RowKit
open L (Str isName prt size_len below_2 below_box ret_bool ret_int ret_string bytes_eq append_list)
open A

set_option maxHeartbeats 2000000 in
set_option maxRecDepth 100000 in
theorem oexpr_neg (h : Nat) (n : Nat) (x : Ex) (hh : h ≤ 12) (ho : n = 18 ∨ n = 9) (wx : W h x) (ix : OTx x) : OTx (.mk (n : Int) 0 none8 [x]) := by
  intro a c w ht hK
  have hb := below_box w (exO (.mk (n : Int) 0 none8 [x]) a c)
  have ht2 := ht.below hb
  obtain ⟨b, i, a2, c2, rfl, kx⟩ := okids1 (obox_kids (c := c) hK)
  have HB := Lib.hid hb
  have hl := ht2.lev n (by omega) (by omega)
  have hc := ht2.txt n (by omega) (by omega)
  have HX := Lib.hid (fun (d : Nat) (os : Array Obj) => Calls.regrown_of (d := d) (os := os) (otextAt_any wx (by omega) ix (lv n) a2 c2 _ (ht2.below (below_regrown _ d os)) (kx.kids.below (below_regrown _ d os))))
  have sx := oatt_size wx (by omega) (lv n)
  have TX := Lib.hid (oba_list (att (lv n) (lv x.op, tx x)))
  have HV : Hid (tx (.mk (n : Int) 0 none8 [x]) = opx n ++ att (lv n) (lv x.op, tx x)) := by
    show _ = _
    rw [otx_neg (n : Int) x (by omega)]; rfl
  have hg := opx_size n
  have HG := Lib.hid (oba_list (opx n))
  obtain ⟨e0, e1, e2, e3⟩ := exO_cells w (.mk (n : Int) 0 none8 [x]) (some ⟨b, i, none⟩) c
  rw [HV.out]
  unfold exV at HX
  generalize ba (att (lv n) (lv x.op, tx x)) = X at HX sx TX
  generalize ba (opx n) = G at hc hg HG
  obtain ⟨k0, k1, k2, k3, _⟩ := kx
  simp only [exV_mk, exO_mk, op_mk, n_mk, s_mk, args_mk, List.length_cons, List.length_nil] at *
  have e0g := fun d os => cell_regrown e0 d os
  have e3g := fun d os => cell_regrown e3 d os
  have hcg := fun d os => cell_regrown hc d os
  have x0g := fun d os => cell_regrown k0 d os
  have x1g := fun d os => cell_regrown k1 d os
  have x2g := fun d os => cell_regrown k2 d os
  have x3g := fun d os => cell_regrown k3 d os
  clear hb hK HV wx ix e0 e1 e2 e3 k0 k1 k2 k3 ht ht2 hc
  rcases ho with rfl | rfl
  · have h3 : ((lv ((18 : Nat) : Int) : Nat) : Int) = 3 := rfl
    rw [h3] at hl
    simp only [h3] at HX
    simp only [show ((18 : Nat) : Int) = 18 from rfl, Nat.reduceMul, Nat.reduceAdd] at *
    clear h3
    go_enter Tryd.func25, Tryd.ntmps25
    go_wp2_with fail
    refine wp_region_quiet_below (by kernel_rfl) (by kernel_rfl) ?_
    repeat (go_big_quiet_step (with_reducible exact HX.out _ _))
    refine wpQuiet_nil ?_
    intro w4 hw'
    obtain ⟨⟨dq, osq⟩, hw2⟩ := hw'
    have hb4 := below_now hw2
    have HB4 := Lib.hid (below_2 HB.out hb4)
    clear hw2 hb4
    go_wp2_with fail
    go_ret
    exact ⟨ret_string (oba_eq (by rw [append_list, TX.out, HG.out])), HB4.out⟩
  · have h8 : ((lv ((9 : Nat) : Int) : Nat) : Int) = 8 := rfl
    rw [h8] at hl
    simp only [h8] at HX
    simp only [show ((9 : Nat) : Int) = 9 from rfl, Nat.reduceMul, Nat.reduceAdd] at *
    clear h8
    go_enter Tryd.func25, Tryd.ntmps25
    go_wp2_with fail
    refine wp_region_quiet_below (by kernel_rfl) (by kernel_rfl) ?_
    repeat (go_big_quiet_step (with_reducible exact HX.out _ _))
    refine wpQuiet_nil ?_
    intro w4 hw'
    obtain ⟨⟨dq, osq⟩, hw2⟩ := hw'
    have hb4 := below_now hw2
    have HB4 := Lib.hid (below_2 HB.out hb4)
    clear hw2 hb4
    go_wp2_with fail
    go_ret
    exact ⟨ret_string (oba_eq (by rw [append_list, TX.out, HG.out])), HB4.out⟩
theorem olv_high {n : Nat} (h : 20 ≤ n) (h2 : n ≤ 27) : lv (n : Int) = 9 := by
  have : n = 20 ∨ n = 21 ∨ n = 22 ∨ n = 23 ∨ n = 24 ∨ n = 25 ∨ n = 26 ∨ n = 27 := by omega
  rcases this with rfl | rfl | rfl | rfl | rfl | rfl | rfl | rfl <;> rfl
theorem nat_of {o : Int} (h : 0 ≤ o) : ∃ n : Nat, o = (n : Int) := ⟨o.toNat, by omega⟩
/-- exprText of whatever valid expression -/
theorem oexprText_any {h : Nat} {e : Ex} (w : W h e) : h ≤ 13 → OTx e := by
  induction w with
  | int h n h1 h2 => exact fun _ => oexpr_unit 1 n none8 [] (by decide) (by decide) rfl (ounit_int n h1 h2)
  | str h s hp => exact fun _ => oexpr_unit 2 0 s [] (by decide) (by decide) rfl (ounit_str s hp)
  | var h s hn => exact fun _ => oexpr_unit 3 0 s [] (by decide) (by decide) rfl (ounit_var s hn)
  | nul h o h1 h2 =>
    obtain ⟨n, rfl⟩ := nat_of (o := o) (by omega)
    exact fun _ => oexpr_unit n 0 none8 [] (by omega) (by omega) (olv_high (by omega) (by omega)) (ounit_nul n (by omega) (by omega))
  | neg h o a ho wa ih =>
    obtain ⟨n, rfl⟩ := nat_of (o := o) (by omega)
    exact fun hh => oexpr_neg h n a (by omega) (by omega) wa (ih (by omega))
  | call h o a h1 h2 wa ih =>
    obtain ⟨n, rfl⟩ := nat_of (o := o) (by omega)
    exact fun hh => oexpr_unit n 0 none8 [a] (by omega) (by omega) (olv_high (by omega) (by omega)) (ounit_call h n a (by omega) (by omega) (by omega) wa (ih (by omega)))
  | bin h o a b h1 h2 h3 h4 wa wb iha ihb =>
    obtain ⟨n, rfl⟩ := nat_of (o := o) (by omega)
    exact fun hh => oexpr_bin h n a b (by omega) (by omega) (by omega) (by omega) (by omega) wa wb (iha (by omega)) (ihb (by omega))
mutual
theorem onB_ok : ∀ e : Ex, okE e → nB e
  | .mk o n s l, h => by rw [okE] at h; rw [nB]; exact ⟨h.2.1.2, onBs_ok l h.2.2.2.2⟩
theorem onBs_ok : ∀ l : List Ex, okEs l → nBs l
  | [], _ => by rw [nBs]; trivial
  | e :: r, h => by rw [okEs] at h; rw [nBs]; exact ⟨onB_ok e h.1, onBs_ok r h.2⟩
end
theorem ow_here {e : Ex} (hok : okE e) (h : vE e 1 = 0) : W 12 e := w_of 12 e 1 rfl h (onB_ok e hok)
theorem obox_later {w w' : World} {e : Ex} {a : Option Addr} {c : Nat} (hb : Below (w.alloc (exO e a c)).heap.size (w.alloc (exO e a c)) w') :
    w'.cell? ⟨w.heap.size, 0, none⟩ = some (.int .i64 e.op) ∧ w'.cell? ⟨w.heap.size, 1, none⟩ = some (.int .i64 e.n) ∧ w'.cell? ⟨w.heap.size, 2, none⟩ = some (.string e.s) ∧ w'.cell? ⟨w.heap.size, 3, none⟩ = some (.slice a e.args.length c) := by
  obtain ⟨c0, c1, c2, c3⟩ := exO_cells w e a c
  have hlt : w.heap.size < (w.alloc (exO e a c)).heap.size := by simp
  exact ⟨(hb.cell hlt).trans c0, (hb.cell hlt).trans c1, (hb.cell hlt).trans c2, (hb.cell hlt).trans c3⟩
set_option maxHeartbeats 2000000 in
set_option maxRecDepth 100000 in
theorem oexpr_any (e : Ex) (a : Option Addr) (c : Nat) (hok : okE e) (w : World) (ht : Tab w) (hK : A.Kids w a e.args) :
    Calls Tryd.prog 11 #[exV e a c] w fun e' w' => e' = .returned (.string (ba (exprT e))) ∧ Below w.heap.size w w' := by
  have hw := below_box w (exO e a c)
  have HC := Lib.hid (ovalidExpr_any e a c hok _ (hK.below hw))
  have HW := Lib.hid hw
  have HBL := Lib.hid (fun w' hb => obox_later (w := w) (w' := w') (e := e) (a := a) (c := c) hb)
  by_cases hv : vE e 1 = 0
  · have HT := Lib.hid (fun w' hb => oexprText_any (ow_here hok hv) (by decide) a c w' ((ht.below hw).below hb) ((hK.below hw).below hb))
    have HV : Hid (exprT e = tx e) := by show _ = _; unfold exprT; rw [if_pos hv]
    rw [HV.out]
    rw [hv] at HC
    generalize ba (tx e) = T at HT ⊢
    unfold exO at HC HW HBL HT
    unfold exV at *
    clear hv hw hK hok HV ht
    go_enter Tryd.func11, Tryd.ntmps11
    go_wp2_with fail
    refine HC.out.mono ?_; rintro e' w1 ⟨rfl, hb1⟩
    have HB1 := Lib.hid hb1
    obtain ⟨c0, c1, c2, c3⟩ := HBL.out _ hb1
    clear hb1
    go_wp2_with fail
    refine (HT.out _ HB1.out).mono ?_; rintro e' w2 ⟨rfl, hb2⟩
    have HB2 := Lib.hid (below_2 (below_2 HW.out HB1.out) hb2)
    clear hb2
    go_wp2_with fail
    go_ret
    exact ⟨rfl, HB2.out⟩
  · have HV : Hid (exprT e = []) := by show _ = _; unfold exprT; rw [if_neg hv]
    rw [HV.out]
    have bx : (vE e 1 != 0) = true := bne_iff_ne.2 hv
    generalize vE e 1 = x at HC bx
    unfold exO at HC HW
    unfold exV at *
    clear hv hw hK hok HV HBL ht
    go_enter Tryd.func11, Tryd.ntmps11
    go_wp2_with fail
    refine HC.out.mono ?_; rintro e' w1 ⟨rfl, hb1⟩
    have HB1 := Lib.hid (below_2 HW.out hb1)
    clear hb1
    go_wp2_with fail
    go_ret
    exact ⟨rfl, HB1.out⟩
end Go.Proofs.YtbmdadhbkdkgmaaDoor.P
