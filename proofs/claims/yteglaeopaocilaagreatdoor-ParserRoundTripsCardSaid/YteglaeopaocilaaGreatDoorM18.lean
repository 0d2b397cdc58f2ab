/-
  What the program's functions of layer 9 return: what the tables hold; textAt over exprText: contracts.
  Procedures in memory; what the reach gives of them; their heads: for the program and the reference of layer 9.
  What the program's functions of layer 9 return: binaryText, unitText, exprText, Expr: contracts.
  What the program's functions of layer 9 return: unitText, exprText, Expr: contracts.
  What the program's functions of layer 9 return: exprText of whatever valid expression, Expr: contracts.
  The program's writer of layer 9 in memory: its text, its blocks; what its methods leave as it was; the method line: a contract.
-/
import Derived.Test.YteglaeopaocilaaGreatDoorM02
import Derived.Test.YteglaeopaocilaaGreatDoorM15
import Derived.Lib.QuietBelow
import Derived.IntWalk
import Derived.Test.YteglaeopaocilaaGreatDoorM01
import Derived.Test.YteglaeopaocilaaGreatDoorM16
import Derived.Lib.AppendStr
import Derived.Lib.Builder
namespace Go.Proofs.YteglaeopaocilaaGreatDoor.P
open Go.RowKit
open L (Str isName prt size_len below_2 below_box ret_bool ret_int ret_string bytes_eq append_list)
open A

theorem oba_list (l : Str) : (ba l).data.toList = l := by unfold ba; simp
theorem oba_eq {a : ByteArray} {l : Str} (h : a.data.toList = l) : a = ba l := bytes_eq (by rw [h, oba_list])
theorem oba_size (l : Str) : (ba l).size = l.length := by rw [size_len, oba_list]
theorem below_now {W w4 : World} {d : Nat} {os : Array Obj} (h : w4 = Sort.grow (redrawn W d) os) : Below W.heap.size W w4 := h ▸ below_regrown W d os
/-- how the table writes an operator -/
def opx (n : Nat) : Str := if n ≤ 3 then [] else if n = 9 then [45] else if n = 18 then [110, 111, 116, 32] else if 20 ≤ n then wd n else sg n
/-- what the tables hold -/
structure Tab (w : World) : Prop where
  lev : ∀ n : Nat, 1 ≤ n → n ≤ 27 → w.cell? ⟨0, n * 2, none⟩ = some (.int .i64 ((lv n : Nat) : Int))
  txt : ∀ n : Nat, 1 ≤ n → n ≤ 27 → w.cell? ⟨0, n * 2 + 1, none⟩ = some (.string (ba (opx n)))
  pow : Lib.TabIs Tryz.prog w "internal/strconv.uint64pow10" .u64 Lib.pow10Tab
theorem pow_named : Tryz.prog.globalNamed "internal/strconv.uint64pow10" = some 6 := by kernel_rfl
theorem pow_below {w w' : World} (h : Lib.TabIs Tryz.prog w "internal/strconv.uint64pow10" .u64 Lib.pow10Tab) (hb : Below w.heap.size w w') : Lib.TabIs Tryz.prog w' "internal/strconv.uint64pow10" .u64 Lib.pow10Tab := by
  have hc := h.cell pow_named 0 (by decide)
  have hlt : 6 < w.heap.size := block_lt_of_cell hc
  unfold Lib.TabIs World.var? at *
  rw [pow_named] at *
  simp only [Option.bind_some] at *
  rw [hb.block _ hlt]
  exact h
theorem Tab.below {w w' : World} (h : Tab w) (hb : Below w.heap.size w w') : Tab w' :=
  ⟨fun n h1 h2 => (hb.cell (block_lt_of_cell (h.lev n h1 h2))).trans (h.lev n h1 h2), fun n h1 h2 => (hb.cell (block_lt_of_cell (h.txt n h1 h2))).trans (h.txt n h1 h2), pow_below h.pow hb⟩
/-- with the names of the types -/
structure TabT (w : World) : Prop where
  tab : Tab w
  tys : ∀ n : Nat, 1 ≤ n → n ≤ 3 → w.cell? ⟨1, n, none⟩ = some (.string (ba (tyW n)))
theorem TabT.below {w w' : World} (h : TabT w) (hb : Below w.heap.size w w') : TabT w' :=
  ⟨h.tab.below hb, fun n h1 h2 => (hb.cell (block_lt_of_cell (h.tys n h1 h2))).trans (h.tys n h1 h2)⟩
/-- what exprText returns -/
def OTx (e : Ex) : Prop := ∀ (a : Option Addr) (c : Nat) (w : World), Tab w → A.Kids w a e.args → Calls Tryz.prog 60 #[exV e a c] w fun e' w' => e' = .returned (.string (ba (tx e))) ∧ Below w.heap.size w w'
theorem opow13 {h : Nat} (hh : h ≤ 13) : 140 * 2 ^ h ≤ 1146880 := by
  have : 2 ^ h ≤ 2 ^ 13 := Nat.pow_le_pow_right (by decide) hh
  omega
theorem otx_size {h : Nat} {e : Ex} (w : W h e) (hh : h ≤ 13) : (ba (tx e)).size ≤ 1146880 := by
  rw [oba_size]
  have := tx_len w
  have := opow13 hh
  omega
theorem ow_op {h : Nat} {e : Ex} (w : W h e) : ∃ n : Nat, e.op = (n : Int) ∧ 1 ≤ n ∧ n ≤ 27 := by
  have : 1 ≤ e.op ∧ e.op ≤ 27 := by cases w <;> simp only [Ex.op] <;> omega
  exact ⟨e.op.toNat, by omega, by omega, by omega⟩
set_option maxHeartbeats 1000000 in
set_option maxRecDepth 100000 in
theorem otextAt_any {h : Nat} {e : Ex} (hw : W h e) (hh : h ≤ 13) (hT : OTx e) (m : Nat) (a : Option Addr) (c : Nat) (w : World) (ht : Tab w) (hK : A.Kids w a e.args) :
    Calls Tryz.prog 112 #[exV e a c, .int .i64 (m : Int)] w fun e' w' => e' = .returned (.string (ba (att m (lv e.op, tx e)))) ∧ Below w.heap.size w w' := by
  obtain ⟨n, hn, n1, n2⟩ := ow_op hw
  obtain ⟨o, k, s, l⟩ := e
  simp only [op_mk] at hn
  subst hn
  have hb := below_box w (exO (.mk (n : Int) k s l) a c)
  have ht2 := ht.below hb
  have HT := Lib.hid (hT a c _ ht2 (hK.below hb))
  have HB := Lib.hid hb
  have hz := otx_size hw hh
  have HV : Hid (att m (lv (n : Int), tx (.mk (n : Int) k s l)) = if lv (n : Int) < m then 40 :: (tx (.mk (n : Int) k s l) ++ [41]) else tx (.mk (n : Int) k s l)) := rfl
  have HX := Lib.hid (oba_list (tx (.mk (n : Int) k s l)))
  have hc := ht2.lev n n1 n2
  simp only [op_mk]
  rw [HV.out]
  generalize ba (tx (.mk (n : Int) k s l)) = T at HT hz HX
  generalize lv (n : Int) = L at hc ⊢
  simp only [exV_mk, exO_mk] at *
  clear hb hT hK hw HV ht2 ht
  by_cases hl : L < m
  · have bl : decide (L < m) = true := decide_eq_true hl
    rw [if_pos hl]
    clear hl
    go_enter Tryz.func112, Tryz.ntmps112
    go_wp2_with fail
    refine HT.out.mono ?_; rintro e' w2 ⟨rfl, hb2⟩
    have HB2 := Lib.hid (below_2 HB.out hb2)
    clear hb2
    go_wp2_with fail
    go_ret
    exact ⟨ret_string (oba_eq (by rw [append_list, append_list, HX.out]; rfl)), HB2.out⟩
  · have bl : decide (L < m) = false := decide_eq_false hl
    rw [if_neg hl]
    clear hl
    go_enter Tryz.func112, Tryz.ntmps112
    go_wp2_with fail
    refine HT.out.mono ?_; rintro e' w2 ⟨rfl, hb2⟩
    have HB2 := Lib.hid (below_2 HB.out hb2)
    clear hb2
    go_wp2_with fail
    go_ret
    exact ⟨ret_string (oba_eq HX.out), HB2.out⟩
end Go.Proofs.YteglaeopaocilaaGreatDoor.P
namespace Go.Proofs.YteglaeopaocilaaGreatDoor.P
open Go.RowKit
open L (Str isName prt size_len below_2 below_box ret_bool ret_int ret_string bytes_eq append_list)
open A

theorem ok_of_in {l : List St} {s : St} {d e : Nat} (hok : okB l) (h : V.st s d ∈ preB l e) : okS s := by
  obtain ⟨j, hj, hv⟩ := List.getElem_of_mem h
  have := preB_ok l e hok j _ (List.getElem?_eq_getElem hj)
  rw [hv] at this
  exact this.1
mutual
theorem mnB_ok : ∀ e : Ex, okE e → nB e
  | .mk o n s l, h => by rw [okE] at h; rw [nB]; exact ⟨h.2.1.2, mnBs_ok l h.2.2.2.2⟩
theorem mnBs_ok : ∀ l : List Ex, okEs l → nBs l
  | [], _ => by rw [nBs]; trivial
  | e :: r, h => by rw [okEs] at h; rw [nBs]; exact ⟨mnB_ok e h.1, mnBs_ok r h.2⟩
end
theorem wp_here {p : Pr} (hok : OkP p) (h : valE p = 0) : WP p := wp_of h fun _ _ hv => ⟨mnB_ok _ (okS_open (ok_of_in hok.body hv)).a, mnB_ok _ (okS_open (ok_of_in hok.body hv)).b⟩
theorem six_of {p : Pr} (h : valE p = 0) : p.params.length ≤ 6 := (par_each (val_parts h).2.1).1
/-- a parameter's text -/
def txQ (p : Pm) : Str := str p.name ++ 58 :: 32 :: tyW p.ty
/-- a procedure that lies at a place -/
def PrAt (w : World) (p : Pr) (b i : Nat) : Prop := ∃ a1 c1 a2 c2, w.cell? ⟨b, i, none⟩ = some (.string p.name) ∧ w.cell? ⟨b, i + 1, none⟩ = some (.slice a1 p.params.length c1) ∧ w.cell? ⟨b, i + 2, none⟩ = some (.slice a2 p.body.length c2) ∧ p.params.length ≤ c1 ∧ PrIn w p a1 a2
/-- the slice at a holds the procedures l -/
def Prs (w : World) (a : Option Addr) (l : List Pr) : Prop := l = [] ∨ ∃ b i, a = some ⟨b, i, none⟩ ∧ ∀ j (h : j < l.length), PrAt w l[j] b (i + j * 3)
theorem PrAt.below {w w' : World} {p : Pr} {b i : Nat} (h : PrAt w p b i) (hb : Below w.heap.size w w') : PrAt w' p b i := by
  obtain ⟨a1, c1, a2, c2, h0, h1, h2, h3, h4⟩ := h
  have hlt : b < w.heap.size := block_lt_of_cell h0
  exact ⟨a1, c1, a2, c2, (hb.cell hlt).trans h0, (hb.cell hlt).trans h1, (hb.cell hlt).trans h2, h3, h4.below hb⟩
theorem Prs.below {w w' : World} {a : Option Addr} {l : List Pr} (h : Prs w a l) (hb : Below w.heap.size w w') : Prs w' a l := by
  rcases h with h | ⟨b, i, ha, h⟩
  · exact Or.inl h
  · exact Or.inr ⟨b, i, ha, fun j hj => (h j hj).below hb⟩
theorem Prs.open {w : World} {a : Option Addr} {l : List Pr} (h : Prs w a l) {k : Nat} (hk : k < l.length) : ∃ b i, a = some ⟨b, i, none⟩ ∧ PrAt w l[k] b (i + k * 3) := by
  rcases h with rfl | ⟨b, i, ha, h⟩
  · cases hk
  · exact ⟨b, i, ha, h k hk⟩
/-- what may be printed: each procedure within the reach -/
structure OkL (l : List Pr) : Prop where
  len : l.length ≤ 1048576
  each : ∀ j (h : j < l.length), OkP l[j]
theorem txL_len {l : List Pr} (hok : OkL l) (h : ∀ p ∈ l, valE p = 0) (k : Nat) : (txL (l.take k)).length ≤ 260000000000 := by
  have h1 := txL_lenN (l := l.take k) (fun p hp => by
    have hm := List.mem_of_mem_take hp
    obtain ⟨j, hj, rfl⟩ := List.getElem_of_mem hm
    exact ⟨h _ hm, wp_here (hok.each j hj) (h _ hm)⟩)
  have h2 := hok.len
  have h3 : (l.take k).length ≤ l.length := by rw [List.length_take]; exact Nat.min_le_right _ _
  have : 240201 * (l.take k).length ≤ 240201 * 1048576 := Nat.mul_le_mul_left _ (by omega)
  omega
end Go.Proofs.YteglaeopaocilaaGreatDoor.P
namespace Go.Proofs.YteglaeopaocilaaGreatDoor.P
open Go.RowKit
open L (Str isName prt size_len below_2 below_box ret_bool ret_int ret_string bytes_eq append_list)
open A

/-- the cells of an expression that lies at a place -/
structure OKid (w : World) (e : Ex) (b i : Nat) (a : Option Addr) (c : Nat) : Prop where
  k0 : w.cell? ⟨b, i, none⟩ = some (.int .i64 e.op)
  k1 : w.cell? ⟨b, i + 1, none⟩ = some (.int .i64 e.n)
  k2 : w.cell? ⟨b, i + 2, none⟩ = some (.string e.s)
  k3 : w.cell? ⟨b, i + 3, none⟩ = some (.slice a e.args.length c)
  kids : A.Kids w a e.args
theorem okid_of {w : World} {e : Ex} {b i : Nat} (h : ExAt w e b i) : ∃ a c, OKid w e b i a c := by
  obtain ⟨d0, d1, d2, a, c, d3, hk⟩ := h.open
  exact ⟨a, c, d0, d1, d2, d3, hk⟩
theorem okids1 {w : World} {a : Option Addr} {x : Ex} (h : A.Kids w a [x]) : ∃ b i a2 c2, a = some ⟨b, i, none⟩ ∧ OKid w x b i a2 c2 := by
  obtain ⟨b, i, rfl, hat⟩ := h.open (k := 0) (by simp)
  simp only [Nat.zero_mul, Nat.add_zero, List.getElem_cons_zero] at hat
  obtain ⟨a2, c2, hk⟩ := okid_of hat
  exact ⟨b, i, a2, c2, rfl, hk⟩
theorem okids2 {w : World} {a : Option Addr} {x y : Ex} (h : A.Kids w a [x, y]) : ∃ b i a2 c2 a3 c3, a = some ⟨b, i, none⟩ ∧ OKid w x b i a2 c2 ∧ OKid w y b (i + 4) a3 c3 := by
  rcases h with h | ⟨b, i, rfl, h⟩
  · cases h
  · rw [ExsAt, ExsAt] at h
    obtain ⟨a2, c2, hk⟩ := okid_of h.1
    obtain ⟨a3, c3, hk3⟩ := okid_of h.2.1
    exact ⟨b, i, a2, c2, a3, c3, rfl, hk, hk3⟩
theorem obox_kids {w : World} {e : Ex} {a : Option Addr} {c : Nat} (h : A.Kids w a e.args) : A.Kids (w.alloc (exO e a c)) a e.args := h.below (below_box w _)
theorem otx_int (n : Int) : tx (.mk 1 n none8 []) = Go.Lib.itoa n := rfl
theorem otx_str (s : ByteArray) : tx (.mk 2 0 s []) = L.quo (str s) := rfl
theorem otx_var (s : ByteArray) : tx (.mk 3 0 s []) = str s := rfl
theorem otx_nul {n : Nat} (h : 25 ≤ n) : tx (.mk (n : Int) 0 none8 []) = opx n ++ [40, 41] := by
  rw [tx, txs]; unfold txN opx
  rw [if_neg (by omega), if_neg (by omega), if_neg (by omega), if_neg (by omega), if_neg (by omega), if_neg (by omega), if_pos (by omega)]
theorem otx_neg (o : Int) (a : Ex) (h : o = 18 ∨ o = 9) : tx (.mk o 0 none8 [a]) = opx o.toNat ++ att (lv o) (lv a.op, tx a) := by
  rcases h with rfl | rfl
  · rw [tx, txs, txs]; rfl
  · rw [tx, txs, txs]; rfl
theorem otx_call {n : Nat} (h : 20 ≤ n) (a : Ex) : tx (.mk (n : Int) 0 none8 [a]) = opx n ++ 40 :: (tx a ++ [41]) := by
  rw [tx_call (by omega)]; unfold opx
  rw [if_neg (by omega), if_neg (by omega), if_neg (by omega), if_pos h]
theorem opx_bin {n : Nat} (h1 : 4 ≤ n) (h2 : n ≤ 19) (h3 : n ≠ 9) (h4 : n ≠ 18) : opx n = sg n := by
  unfold opx
  rw [if_neg (by omega), if_neg (by omega), if_neg (by omega), if_neg (by omega)]
theorem otx_two {n : Nat} (h1 : 4 ≤ n) (h2 : n ≤ 19) (h3 : n ≠ 9) (h4 : n ≠ 18) (a b : Ex) : tx (.mk (n : Int) 0 none8 [a, b]) = att (if lv n = 4 then 5 else lv n) (lv a.op, tx a) ++ 32 :: (opx n ++ 32 :: att (lv n + 1) (lv b.op, tx b)) := by
  rw [opx_bin h1 h2 h3 h4, tx, txs, txs, txs]; unfold txN
  rw [if_neg (by omega), if_neg (by omega), if_neg (by omega)]
  simp only
  by_cases h : lv (n : Int) = 4
  · rw [if_pos h, if_pos h, h]
  · rw [if_neg h, if_neg h]
theorem oatt_size {h : Nat} {e : Ex} (w : W h e) (hh : h ≤ 13) (m : Nat) : (ba (att m (lv e.op, tx e))).size ≤ 1146890 := by
  rw [oba_size]
  have := att_len m (lv e.op, tx e)
  have := tx_len w
  have := opow13 hh
  simp only at *
  omega
theorem opx_size (n : Nat) : (ba (opx n)).size ≤ 6 := by
  rw [oba_size]; unfold opx
  have h1 := wd_len n
  have h2 := sg_len n
  repeat' split
  all_goals first | (simp only [List.length_cons, List.length_nil]; omega) | omega
theorem olv_bin {n : Nat} (h1 : 4 ≤ n) (h2 : n ≤ 19) (h3 : n ≠ 9) (h4 : n ≠ 18) : 1 ≤ lv n ∧ lv n ≤ 7 ∧ lv n ≠ 3 := by
  have : n = 4 ∨ n = 5 ∨ n = 6 ∨ n = 7 ∨ n = 8 ∨ n = 10 ∨ n = 11 ∨ n = 12 ∨ n = 13 ∨ n = 14 ∨ n = 15 ∨ n = 16 ∨ n = 17 ∨ n = 19 := by omega
  rcases this with rfl | rfl | rfl | rfl | rfl | rfl | rfl | rfl | rfl | rfl | rfl | rfl | rfl | rfl <;> decide
/-- binaryText, whatever level the left operand has at least -/
theorem obin_parts (n : Nat) (x y : Ex) (m : Nat) : ba (att m (lv x.op, tx x) ++ 32 :: (opx n ++ 32 :: att (lv n + 1) (lv y.op, tx y))) = ba (att m (lv x.op, tx x)) ++ ⟨#[32]⟩ ++ ba (opx n) ++ ⟨#[32]⟩ ++ ba (att (lv n + 1) (lv y.op, tx y)) := by
  symm
  refine oba_eq ?_
  simp only [append_list, oba_list]
  simp
set_option maxHeartbeats 2000000 in
set_option maxRecDepth 100000 in
theorem obinary_any (h n : Nat) (x y : Ex) (hh : h ≤ 12) (h1 : 4 ≤ n) (h2 : n ≤ 19) (h3 : n ≠ 9) (h4 : n ≠ 18) (wx : W h x) (wy : W h y) (ix : OTx x) (iy : OTx y) (m : Nat) (a : Option Addr) (c : Nat) (w : World) (ht : Tab w) (hK : A.Kids w a [x, y]) :
    Calls Tryz.prog 113 #[.agg #[.int .i64 (n : Int), .int .i64 0, .string none8, .slice a 2 c], .int .i64 (m : Int)] w fun e' w' => e' = .returned (.string (ba (att m (lv x.op, tx x) ++ 32 :: (opx n ++ 32 :: att (lv n + 1) (lv y.op, tx y))))) ∧ Below w.heap.size w w' := by
  have hb := below_box w (exO (.mk (n : Int) 0 none8 [x, y]) a c)
  have ht2 := ht.below hb
  obtain ⟨b, i, a2, c2, a3, c3, rfl, kx, ky⟩ := okids2 (obox_kids (e := .mk (n : Int) 0 none8 [x, y]) (c := c) hK)
  have HX := Lib.hid (fun (d : Nat) (os : Array Obj) => Calls.regrown_of (d := d) (os := os) (otextAt_any wx (by omega) ix m a2 c2 _ (ht2.below (below_regrown _ d os)) (kx.kids.below (below_regrown _ d os))))
  have HY := Lib.hid (fun (d : Nat) (os : Array Obj) => Calls.regrown_of (d := d) (os := os) (otextAt_any wy (by omega) iy (lv n + 1) a3 c3 _ (ht2.below (below_regrown _ d os)) (ky.kids.below (below_regrown _ d os))))
  have sx := oatt_size wx (by omega) m
  have sy := oatt_size wy (by omega) (lv n + 1)
  have hsg := opx_size n
  obtain ⟨e0, e1, e2, e3⟩ := exO_cells w (.mk (n : Int) 0 none8 [x, y]) (some ⟨b, i, none⟩) c
  have HB := Lib.hid hb
  have hL := olv_bin h1 h2 h3 h4
  have t0 := ht2.lev n (by omega) (by omega)
  have t1 := ht2.txt n (by omega) (by omega)
  rw [obin_parts]
  generalize lv (n : Int) = L at *
  generalize ba (opx n) = G at hsg t1 ⊢
  unfold exV at HX HY
  simp only [Int.natCast_add, Int.natCast_one] at HY
  generalize ba (att m (lv x.op, tx x)) = X at HX sx ⊢
  generalize ba (att (L + 1) (lv y.op, tx y)) = Y at HY sy ⊢
  simp only [exO_mk, op_mk, n_mk, s_mk, args_mk, List.length_cons, List.length_nil] at *
  have e0g := fun d os => cell_regrown e0 d os
  have e3g := fun d os => cell_regrown e3 d os
  have t1g := fun d os => cell_regrown t1 d os
  have x0g := fun d os => cell_regrown kx.k0 d os
  have x1g := fun d os => cell_regrown kx.k1 d os
  have x2g := fun d os => cell_regrown kx.k2 d os
  have x3g := fun d os => cell_regrown kx.k3 d os
  have y0g := fun d os => cell_regrown ky.k0 d os
  have y1g := fun d os => cell_regrown ky.k1 d os
  have y2g := fun d os => cell_regrown ky.k2 d os
  have y3g := fun d os => cell_regrown ky.k3 d os
  clear hb hK kx ky e0 e1 e2 e3 ht ht2 t1 wx wy ix iy h3 h4
  go_enter Tryz.func113, Tryz.ntmps113
  go_wp2_with fail
  refine wp_region_quiet_below (by kernel_rfl) (by kernel_rfl) ?_
  repeat (go_big_quiet_step (with_reducible first | exact HX.out _ _ | exact HY.out _ _))
  refine wpQuiet_nil ?_
  intro w4 hw'
  obtain ⟨⟨dq, osq⟩, hw2⟩ := hw'
  have hb4 := below_now hw2
  have HB4 := Lib.hid (below_2 HB.out hb4)
  clear hw2 hb4
  go_wp2_with fail
  go_ret
  exact ⟨rfl, HB4.out⟩
end Go.Proofs.YteglaeopaocilaaGreatDoor.P
namespace Go.Proofs.YteglaeopaocilaaGreatDoor.P
open Go.RowKit
open L (Str isName prt size_len below_2 below_box ret_bool ret_int ret_string bytes_eq append_list)
open A

theorem oba_str (s : ByteArray) : ba (str s) = s := bytes_eq (by rw [oba_list]; rfl)
theorem oquo_pair {s : ByteArray} (h : plain s = true) : L.pairS (L.qt s.data.toList) = .tuple #[.string (ba (L.quo (str s))), .int .i64 0] := by
  unfold plain at h
  rw [Bool.and_eq_true] at h
  have h1 := of_decide_eq_true h.1
  rw [L.qt_ok (by omega) h.2]
  rfl
theorem oclone_any (s : ByteArray) (hs : s.size ≤ 1000000) (w : World) : Calls Tryz.prog 125 #[.string s] w fun e w' => e = .returned (.string s) ∧ Below w.heap.size w w' := by
  have HC := Lib.hid (fun w => Tryz.stringslite_Clone s w (by omega))
  go_enter Tryz.func125, Tryz.ntmps125
  go_wp2_with fail
  refine (HC.out _).mono ?_; rintro e w1 ⟨rfl, hb⟩
  go_wp2_with fail
  go_ret
  exact ⟨rfl, hb⟩
/-- what unitText returns -/
def OUn (e : Ex) : Prop := ∀ (a : Option Addr) (c : Nat) (w : World), Tab w → A.Kids w a e.args → Calls Tryz.prog 111 #[exV e a c] w fun e' w' => e' = .returned (.string (ba (tx e))) ∧ Below w.heap.size w w'
set_option maxHeartbeats 2000000 in
set_option maxRecDepth 100000 in
theorem ounit_int (n : Int) (h0 : 0 ≤ n) (h1 : n ≤ 9223372036854775807) : OUn (.mk 1 n none8 []) := by
  intro a c w ht _
  have hb := below_box w (exO (.mk 1 n none8 []) a c)
  have HB := Lib.hid hb
  have HF := Lib.hid (format_any n (by omega) h1 _ (ht.below hb).pow)
  rw [otx_int]
  have HT : Hid (ba (Go.Lib.itoa n) = ⟨(Go.Lib.itoa n).toArray⟩) := rfl
  rw [HT.out]
  generalize (⟨(Go.Lib.itoa n).toArray⟩ : ByteArray) = T at HF ⊢
  simp only [exV_mk, exO_mk, List.length_nil] at *
  clear HT ht hb
  go_enter Tryz.func111, Tryz.ntmps111
  go_wp2_with fail
  refine HF.out.mono ?_; rintro e' w2 ⟨rfl, hb2⟩
  have HB2 := Lib.hid (below_2 HB.out hb2)
  clear hb2
  go_wp2_with fail
  go_ret
  exact ⟨rfl, HB2.out⟩
set_option maxHeartbeats 2000000 in
set_option maxRecDepth 100000 in
theorem ounit_str (s : ByteArray) (hp : plain s = true) : OUn (.mk 2 0 s []) := by
  intro a c w ht _
  have hb := below_box w (exO (.mk 2 0 s []) a c)
  have HB := Lib.hid hb
  have HF := Lib.hid (fun w => L.oquote_any s w)
  rw [oquo_pair hp] at HF
  rw [otx_str]
  generalize ba (L.quo (str s)) = T at HF ⊢
  simp only [exV_mk, exO_mk, List.length_nil] at *
  clear hp hb ht
  go_enter Tryz.func111, Tryz.ntmps111
  go_wp2_with fail
  refine (HF.out _).mono ?_; rintro e' w2 ⟨rfl, hb2⟩
  have HB2 := Lib.hid (below_2 HB.out hb2)
  clear hb2
  go_wp2_with fail
  go_ret
  exact ⟨rfl, HB2.out⟩
set_option maxHeartbeats 2000000 in
set_option maxRecDepth 100000 in
theorem ounit_var (s : ByteArray) (hn : nam s = true) : OUn (.mk 3 0 s []) := by
  intro a c w ht _
  have hb := below_box w (exO (.mk 3 0 s []) a c)
  have HB := Lib.hid hb
  have hz : s.size ≤ 16 := nam_len hn
  have HF := Lib.hid (fun w => oclone_any s (by omega) w)
  rw [otx_var, oba_str]
  simp only [exV_mk, exO_mk, List.length_nil] at *
  clear hb ht hn
  go_enter Tryz.func111, Tryz.ntmps111
  go_wp2_with fail
  refine (HF.out _).mono ?_; rintro e' w2 ⟨rfl, hb2⟩
  have HB2 := Lib.hid (below_2 HB.out hb2)
  clear hb2
  go_wp2_with fail
  go_ret
  exact ⟨rfl, HB2.out⟩
set_option maxHeartbeats 2000000 in
set_option maxRecDepth 100000 in
theorem ounit_nul (n : Nat) (h : 25 ≤ n) (h2 : n ≤ 27) : OUn (.mk (n : Int) 0 none8 []) := by
  intro a c w ht _
  have hb := below_box w (exO (.mk (n : Int) 0 none8 []) a c)
  have HB := Lib.hid hb
  have hc := (ht.below hb).txt n (by omega) h2
  have hg := opx_size n
  have HV := Lib.hid (otx_nul h)
  have HG := Lib.hid (oba_list (opx n))
  rw [HV.out]
  generalize ba (opx n) = G at hc hg HG
  simp only [exV_mk, exO_mk, List.length_nil] at *
  clear ht hb HV
  have : n = 25 ∨ n = 26 ∨ n = 27 := by omega
  rcases this with rfl | rfl | rfl
  all_goals
    clear h h2
    simp only [show ((25 : Nat) : Int) = 25 from rfl, show ((26 : Nat) : Int) = 26 from rfl, show ((27 : Nat) : Int) = 27 from rfl, Nat.reduceMul, Nat.reduceAdd] at *
    go_enter Tryz.func111, Tryz.ntmps111
    go_wp2_with fail
    go_ret
    exact ⟨ret_string (oba_eq (by rw [append_list, HG.out])), HB.out⟩
set_option maxHeartbeats 2000000 in
set_option maxRecDepth 100000 in
theorem ounit_call (h n : Nat) (x : Ex) (hh : h ≤ 12) (h1 : 20 ≤ n) (h2 : n ≤ 24) (wx : W h x) (ix : OTx x) : OUn (.mk (n : Int) 0 none8 [x]) := by
  intro a c w ht hK
  have hb := below_box w (exO (.mk (n : Int) 0 none8 [x]) a c)
  have ht2 := ht.below hb
  obtain ⟨b, i, a2, c2, rfl, kx⟩ := okids1 (obox_kids (c := c) hK)
  have HB := Lib.hid hb
  have hc := ht2.txt n (by omega) (by omega)
  have HX := Lib.hid (fun (d : Nat) (os : Array Obj) => Calls.regrown_of (d := d) (os := os) (ix a2 c2 _ (ht2.below (below_regrown _ d os)) (kx.kids.below (below_regrown _ d os))))
  have sx := otx_size wx (by omega)
  have TX := Lib.hid (oba_list (tx x))
  have HV := Lib.hid (otx_call h1 x)
  have hg := opx_size n
  have HG := Lib.hid (oba_list (opx n))
  obtain ⟨e0, e1, e2, e3⟩ := exO_cells w (.mk (n : Int) 0 none8 [x]) (some ⟨b, i, none⟩) c
  have t1 : ((n : Int) == 1) = false := beq_eq_false_iff_ne.2 (by omega)
  have t2 : ((n : Int) == 2) = false := beq_eq_false_iff_ne.2 (by omega)
  have t3 : ((n : Int) == 3) = false := beq_eq_false_iff_ne.2 (by omega)
  have t25 : ((n : Int) == 25) = false := beq_eq_false_iff_ne.2 (by omega)
  have t26 : ((n : Int) == 26) = false := beq_eq_false_iff_ne.2 (by omega)
  have t27 : ((n : Int) == 27) = false := beq_eq_false_iff_ne.2 (by omega)
  rw [HV.out]
  unfold exV at HX
  generalize ba (tx x) = X at HX sx TX
  generalize ba (opx n) = G at hc hg HG
  obtain ⟨k0, k1, k2, k3, _⟩ := kx
  simp only [exV_mk, exO_mk, op_mk, n_mk, s_mk, args_mk, List.length_cons, List.length_nil] at *
  have e0g := fun d os => cell_regrown e0 d os
  have e3g := fun d os => cell_regrown e3 d os
  have hcg := fun d os => cell_regrown hc d os
  have x0g := fun d os => cell_regrown k0 d os
  have x1g := fun d os => cell_regrown k1 d os
  have x2g := fun d os => cell_regrown k2 d os
  have x3g := fun d os => cell_regrown k3 d os
  clear hb hK HV wx ix e0 e1 e2 e3 k0 k1 k2 k3 ht ht2 hc
  go_enter Tryz.func111, Tryz.ntmps111
  go_wp2_with fail
  refine wp_region_quiet_below (by kernel_rfl) (by kernel_rfl) ?_
  repeat (go_big_quiet_step (with_reducible exact HX.out _ _))
  refine wpQuiet_nil ?_
  intro w4 hw'
  obtain ⟨⟨dq, osq⟩, hw2⟩ := hw'
  have hb4 := below_now hw2
  have HB4 := Lib.hid (below_2 HB.out hb4)
  clear hw2 hb4
  go_wp2_with fail
  go_ret
  exact ⟨ret_string (oba_eq (by simp only [append_list, TX.out, HG.out]; simp)), HB4.out⟩
set_option maxHeartbeats 2000000 in
set_option maxRecDepth 100000 in
theorem oexpr_unit (n : Nat) (k : Int) (s : ByteArray) (l : List Ex) (h1 : 1 ≤ n) (h2 : n ≤ 27) (h9 : lv n = 9) (H : OUn (.mk (n : Int) k s l)) : OTx (.mk (n : Int) k s l) := by
  intro a c w ht hK
  have hb := below_box w (exO (.mk (n : Int) k s l) a c)
  have ht2 := ht.below hb
  have HB := Lib.hid hb
  have hc := ht2.lev n h1 h2
  rw [h9] at hc
  have HU := Lib.hid (H a c _ ht2 (hK.below hb))
  generalize ba (tx (.mk (n : Int) k s l)) = T at HU ⊢
  simp only [exV_mk, exO_mk, args_mk, show ((9 : Nat) : Int) = 9 from rfl] at *
  clear hb hK ht ht2 H h9
  go_enter Tryz.func60, Tryz.ntmps60
  go_wp2_with fail
  refine HU.out.mono ?_; rintro e' w2 ⟨rfl, hb2⟩
  have HB2 := Lib.hid (below_2 HB.out hb2)
  clear hb2
  go_wp2_with fail
  go_ret
  exact ⟨rfl, HB2.out⟩
set_option maxHeartbeats 2000000 in
set_option maxRecDepth 100000 in
theorem oexpr_bin (h n : Nat) (x y : Ex) (hh : h ≤ 12) (h1 : 4 ≤ n) (h2 : n ≤ 19) (h3 : n ≠ 9) (h4 : n ≠ 18) (wx : W h x) (wy : W h y) (ix : OTx x) (iy : OTx y) : OTx (.mk (n : Int) 0 none8 [x, y]) := by
  intro a c w ht hK
  have hb := below_box w (exO (.mk (n : Int) 0 none8 [x, y]) a c)
  have ht2 := ht.below hb
  have HB := Lib.hid hb
  have hc := ht2.lev n (by omega) (by omega)
  have HU := Lib.hid (fun m => obinary_any h n x y hh h1 h2 h3 h4 wx wy ix iy m a c _ ht2 (hK.below hb))
  have hL := olv_bin h1 h2 h3 h4
  rw [otx_two h1 h2 h3 h4]
  generalize lv (n : Int) = L at *
  obtain ⟨L1, L7, L3⟩ := hL
  have b9 : ((L : Int) == 9) = false := beq_eq_false_iff_ne.2 (by omega)
  have b3 : ((L : Int) == 3) = false := beq_eq_false_iff_ne.2 (by omega)
  have b8 : ((L : Int) == 8) = false := beq_eq_false_iff_ne.2 (by omega)
  by_cases h4c : L = 4
  · have b4 : ((L : Int) == 4) = true := beq_iff_eq.2 (by omega)
    rw [if_pos h4c]
    have HU := Lib.hid (HU.out 5)
    generalize ba (att 5 (lv x.op, tx x) ++ 32 :: (opx n ++ 32 :: att (L + 1) (lv y.op, tx y))) = T at HU ⊢
    subst h4c
    simp only [exV_mk, exO_mk, args_mk, List.length_cons, List.length_nil, show ((4 : Nat) : Int) = 4 from rfl, show ((5 : Nat) : Int) = 5 from rfl] at *
    clear hb hK ht ht2 wx wy ix iy h3 h4 b9 b3 b8 b4
    go_enter Tryz.func60, Tryz.ntmps60
    go_wp2_with fail
    refine HU.out.mono ?_; rintro e' w2 ⟨rfl, hb2⟩
    have HB2 := Lib.hid (below_2 HB.out hb2)
    clear hb2
    go_wp2_with fail
    go_ret
    exact ⟨rfl, HB2.out⟩
  · have b4 : ((L : Int) == 4) = false := beq_eq_false_iff_ne.2 (by omega)
    rw [if_neg h4c]
    have HU := Lib.hid (HU.out L)
    generalize ba (att L (lv x.op, tx x) ++ 32 :: (opx n ++ 32 :: att (L + 1) (lv y.op, tx y))) = T at HU ⊢
    simp only [exV_mk, exO_mk, args_mk, List.length_cons, List.length_nil] at *
    clear hb hK ht ht2 wx wy ix iy h3 h4 h4c
    go_enter Tryz.func60, Tryz.ntmps60
    go_wp2_with fail
    refine HU.out.mono ?_; rintro e' w2 ⟨rfl, hb2⟩
    have HB2 := Lib.hid (below_2 HB.out hb2)
    clear hb2
    go_wp2_with fail
    go_ret
    exact ⟨rfl, HB2.out⟩
end Go.Proofs.YteglaeopaocilaaGreatDoor.P
namespace Go.Proofs.YteglaeopaocilaaGreatDoor.P
open Go.RowKit
open L (Str isName prt size_len below_2 below_box ret_bool ret_int ret_string bytes_eq append_list)
open A

set_option maxHeartbeats 2000000 in
set_option maxRecDepth 100000 in
theorem oexpr_neg (h : Nat) (n : Nat) (x : Ex) (hh : h ≤ 12) (ho : n = 18 ∨ n = 9) (wx : W h x) (ix : OTx x) : OTx (.mk (n : Int) 0 none8 [x]) := by
  intro a c w ht hK
  have hb := below_box w (exO (.mk (n : Int) 0 none8 [x]) a c)
  have ht2 := ht.below hb
  obtain ⟨b, i, a2, c2, rfl, kx⟩ := okids1 (obox_kids (c := c) hK)
  have HB := Lib.hid hb
  have hl := ht2.lev n (by omega) (by omega)
  have hc := ht2.txt n (by omega) (by omega)
  have HX := Lib.hid (fun (d : Nat) (os : Array Obj) => Calls.regrown_of (d := d) (os := os) (otextAt_any wx (by omega) ix (lv n) a2 c2 _ (ht2.below (below_regrown _ d os)) (kx.kids.below (below_regrown _ d os))))
  have sx := oatt_size wx (by omega) (lv n)
  have TX := Lib.hid (oba_list (att (lv n) (lv x.op, tx x)))
  have HV : Hid (tx (.mk (n : Int) 0 none8 [x]) = opx n ++ att (lv n) (lv x.op, tx x)) := by
    show _ = _
    rw [otx_neg (n : Int) x (by omega)]; rfl
  have hg := opx_size n
  have HG := Lib.hid (oba_list (opx n))
  obtain ⟨e0, e1, e2, e3⟩ := exO_cells w (.mk (n : Int) 0 none8 [x]) (some ⟨b, i, none⟩) c
  rw [HV.out]
  unfold exV at HX
  generalize ba (att (lv n) (lv x.op, tx x)) = X at HX sx TX
  generalize ba (opx n) = G at hc hg HG
  obtain ⟨k0, k1, k2, k3, _⟩ := kx
  simp only [exV_mk, exO_mk, op_mk, n_mk, s_mk, args_mk, List.length_cons, List.length_nil] at *
  have e0g := fun d os => cell_regrown e0 d os
  have e3g := fun d os => cell_regrown e3 d os
  have hcg := fun d os => cell_regrown hc d os
  have x0g := fun d os => cell_regrown k0 d os
  have x1g := fun d os => cell_regrown k1 d os
  have x2g := fun d os => cell_regrown k2 d os
  have x3g := fun d os => cell_regrown k3 d os
  clear hb hK HV wx ix e0 e1 e2 e3 k0 k1 k2 k3 ht ht2 hc
  rcases ho with rfl | rfl
  · have h3 : ((lv ((18 : Nat) : Int) : Nat) : Int) = 3 := rfl
    rw [h3] at hl
    simp only [h3] at HX
    simp only [show ((18 : Nat) : Int) = 18 from rfl, Nat.reduceMul, Nat.reduceAdd] at *
    clear h3
    go_enter Tryz.func60, Tryz.ntmps60
    go_wp2_with fail
    refine wp_region_quiet_below (by kernel_rfl) (by kernel_rfl) ?_
    repeat (go_big_quiet_step (with_reducible exact HX.out _ _))
    refine wpQuiet_nil ?_
    intro w4 hw'
    obtain ⟨⟨dq, osq⟩, hw2⟩ := hw'
    have hb4 := below_now hw2
    have HB4 := Lib.hid (below_2 HB.out hb4)
    clear hw2 hb4
    go_wp2_with fail
    go_ret
    exact ⟨ret_string (oba_eq (by rw [append_list, TX.out, HG.out])), HB4.out⟩
  · have h8 : ((lv ((9 : Nat) : Int) : Nat) : Int) = 8 := rfl
    rw [h8] at hl
    simp only [h8] at HX
    simp only [show ((9 : Nat) : Int) = 9 from rfl, Nat.reduceMul, Nat.reduceAdd] at *
    clear h8
    go_enter Tryz.func60, Tryz.ntmps60
    go_wp2_with fail
    refine wp_region_quiet_below (by kernel_rfl) (by kernel_rfl) ?_
    repeat (go_big_quiet_step (with_reducible exact HX.out _ _))
    refine wpQuiet_nil ?_
    intro w4 hw'
    obtain ⟨⟨dq, osq⟩, hw2⟩ := hw'
    have hb4 := below_now hw2
    have HB4 := Lib.hid (below_2 HB.out hb4)
    clear hw2 hb4
    go_wp2_with fail
    go_ret
    exact ⟨ret_string (oba_eq (by rw [append_list, TX.out, HG.out])), HB4.out⟩
theorem olv_high {n : Nat} (h : 20 ≤ n) (h2 : n ≤ 27) : lv (n : Int) = 9 := by
  have : n = 20 ∨ n = 21 ∨ n = 22 ∨ n = 23 ∨ n = 24 ∨ n = 25 ∨ n = 26 ∨ n = 27 := by omega
  rcases this with rfl | rfl | rfl | rfl | rfl | rfl | rfl | rfl <;> rfl
theorem nat_of {o : Int} (h : 0 ≤ o) : ∃ n : Nat, o = (n : Int) := ⟨o.toNat, by omega⟩
/-- exprText of whatever valid expression -/
theorem oexprText_any {h : Nat} {e : Ex} (w : W h e) : h ≤ 13 → OTx e := by
  induction w with
  | int h n h1 h2 => exact fun _ => oexpr_unit 1 n none8 [] (by decide) (by decide) rfl (ounit_int n h1 h2)
  | str h s hp => exact fun _ => oexpr_unit 2 0 s [] (by decide) (by decide) rfl (ounit_str s hp)
  | var h s hn => exact fun _ => oexpr_unit 3 0 s [] (by decide) (by decide) rfl (ounit_var s hn)
  | nul h o h1 h2 =>
    obtain ⟨n, rfl⟩ := nat_of (o := o) (by omega)
    exact fun _ => oexpr_unit n 0 none8 [] (by omega) (by omega) (olv_high (by omega) (by omega)) (ounit_nul n (by omega) (by omega))
  | neg h o a ho wa ih =>
    obtain ⟨n, rfl⟩ := nat_of (o := o) (by omega)
    exact fun hh => oexpr_neg h n a (by omega) (by omega) wa (ih (by omega))
  | call h o a h1 h2 wa ih =>
    obtain ⟨n, rfl⟩ := nat_of (o := o) (by omega)
    exact fun hh => oexpr_unit n 0 none8 [a] (by omega) (by omega) (olv_high (by omega) (by omega)) (ounit_call h n a (by omega) (by omega) (by omega) wa (ih (by omega)))
  | bin h o a b h1 h2 h3 h4 wa wb iha ihb =>
    obtain ⟨n, rfl⟩ := nat_of (o := o) (by omega)
    exact fun hh => oexpr_bin h n a b (by omega) (by omega) (by omega) (by omega) (by omega) wa wb (iha (by omega)) (ihb (by omega))
mutual
theorem onB_ok : ∀ e : Ex, okE e → nB e
  | .mk o n s l, h => by rw [okE] at h; rw [nB]; exact ⟨h.2.1.2, onBs_ok l h.2.2.2.2⟩
theorem onBs_ok : ∀ l : List Ex, okEs l → nBs l
  | [], _ => by rw [nBs]; trivial
  | e :: r, h => by rw [okEs] at h; rw [nBs]; exact ⟨onB_ok e h.1, onBs_ok r h.2⟩
end
theorem ow_here {e : Ex} (hok : okE e) (h : vE e 1 = 0) : W 12 e := w_of 12 e 1 rfl h (onB_ok e hok)
theorem obox_later {w w' : World} {e : Ex} {a : Option Addr} {c : Nat} (hb : Below (w.alloc (exO e a c)).heap.size (w.alloc (exO e a c)) w') :
    w'.cell? ⟨w.heap.size, 0, none⟩ = some (.int .i64 e.op) ∧ w'.cell? ⟨w.heap.size, 1, none⟩ = some (.int .i64 e.n) ∧ w'.cell? ⟨w.heap.size, 2, none⟩ = some (.string e.s) ∧ w'.cell? ⟨w.heap.size, 3, none⟩ = some (.slice a e.args.length c) := by
  obtain ⟨c0, c1, c2, c3⟩ := exO_cells w e a c
  have hlt : w.heap.size < (w.alloc (exO e a c)).heap.size := by simp
  exact ⟨(hb.cell hlt).trans c0, (hb.cell hlt).trans c1, (hb.cell hlt).trans c2, (hb.cell hlt).trans c3⟩
set_option maxHeartbeats 2000000 in
set_option maxRecDepth 100000 in
theorem oexpr_any (e : Ex) (a : Option Addr) (c : Nat) (hok : okE e) (w : World) (ht : Tab w) (hK : A.Kids w a e.args) :
    Calls Tryz.prog 27 #[exV e a c] w fun e' w' => e' = .returned (.string (ba (exprT e))) ∧ Below w.heap.size w w' := by
  have hw := below_box w (exO e a c)
  have HC := Lib.hid (ovalidExpr_any e a c hok _ (hK.below hw))
  have HW := Lib.hid hw
  have HBL := Lib.hid (fun w' hb => obox_later (w := w) (w' := w') (e := e) (a := a) (c := c) hb)
  by_cases hv : vE e 1 = 0
  · have HT := Lib.hid (fun w' hb => oexprText_any (ow_here hok hv) (by decide) a c w' ((ht.below hw).below hb) ((hK.below hw).below hb))
    have HV : Hid (exprT e = tx e) := by show _ = _; unfold exprT; rw [if_pos hv]
    rw [HV.out]
    rw [hv] at HC
    generalize ba (tx e) = T at HT ⊢
    unfold exO at HC HW HBL HT
    unfold exV at *
    clear hv hw hK hok HV ht
    go_enter Tryz.func27, Tryz.ntmps27
    go_wp2_with fail
    refine HC.out.mono ?_; rintro e' w1 ⟨rfl, hb1⟩
    have HB1 := Lib.hid hb1
    obtain ⟨c0, c1, c2, c3⟩ := HBL.out _ hb1
    clear hb1
    go_wp2_with fail
    refine (HT.out _ HB1.out).mono ?_; rintro e' w2 ⟨rfl, hb2⟩
    have HB2 := Lib.hid (below_2 (below_2 HW.out HB1.out) hb2)
    clear hb2
    go_wp2_with fail
    go_ret
    exact ⟨rfl, HB2.out⟩
  · have HV : Hid (exprT e = []) := by show _ = _; unfold exprT; rw [if_neg hv]
    rw [HV.out]
    have bx : (vE e 1 != 0) = true := bne_iff_ne.2 hv
    generalize vE e 1 = x at HC bx
    unfold exO at HC HW
    unfold exV at *
    clear hv hw hK hok HV HBL ht
    go_enter Tryz.func27, Tryz.ntmps27
    go_wp2_with fail
    refine HC.out.mono ?_; rintro e' w1 ⟨rfl, hb1⟩
    have HB1 := Lib.hid (below_2 HW.out hb1)
    clear hb1
    go_wp2_with fail
    go_ret
    exact ⟨rfl, HB1.out⟩
end Go.Proofs.YteglaeopaocilaaGreatDoor.P
namespace Go.Proofs.YteglaeopaocilaaGreatDoor.P
open Go.RowKit
open L (Str isName prt size_len below_2 below_box ret_bool ret_int ret_string bytes_eq append_list Own8 bc bc_app info8)
open A

theorem info_of {o : Option TypeInfo} {a : Option Value} {b c : Nat} (h : o.map (fun i => (i.zero, i.size, i.bytes)) = some (a, b, c)) : ∃ i, o = some i ∧ i.zero = a ∧ i.size = b ∧ i.bytes = c := by
  cases o with
  | none => cases h
  | some i =>
    simp only [Option.map_some, Option.some.injEq, Prod.mk.injEq] at h
    exact ⟨i, rfl, h.1, h.2.1, h.2.2⟩
/-- a string appended -/
theorem wpList_append_line {w : World} {ops : Array Oper} {rest : List Oper} {o : Oper} {a : Act} {Q : Exit → Act → World → Prop} (hgd : o.guard = none) (sl x : Operand)
    (ho : o.op = .call { callee := .builtin .append, args := #[sl, x], argTypes := #[93, 9] })
    (base : Nat) (v : Value) (l : Str) (hs : a.eval sl = v) (hown : Own8 w base v l) (s : ByteArray) (hx : a.eval x = .string s) (hn : l.length + s.size ≤ 100000000000000) (hbase : base ≤ w.heap.size)
    (h : ∀ v' w', Own8 w' base v' (l ++ s.data.toList) → w.grownBy w' v.ownBlock → wpList Tryz.prog ops Q rest (a.put o.dst v') w') : wpList Tryz.prog ops Q (o :: rest) a w := by
  obtain ⟨i0, hi, hz0, hz1, hz2⟩ := info_of info8
  refine Lib.wpList_append_own_string w hgd sl x 93 9 ho base 5 i0 Tryz.underlying93 Tryz.underlying9 hi hz0 hz1 hz2 v l.length (bc l) hs hown s hx (by unfold maxLen; omega) (by omega) hbase ?_
  intro v' w' h1 h2 _
  refine h v' w' ?_ h2
  unfold L.Own8
  rw [List.length_append, bc_app, ← size_len]
  exact h1
/-- the line feed appended -/
theorem wpList_append_feed {w : World} {ops : Array Oper} {rest : List Oper} {o : Oper} {a : Act} {Q : Exit → Act → World → Prop} (hgd : o.guard = none) (s x : Operand)
    (ho : o.op = .call { callee := .builtin .append, args := #[s, x], argTypes := #[93, 93] })
    (base : Nat) (v : Value) (l : Str) (hs : a.eval s = v) (hown : Own8 w base v l)
    (hx : a.eval x = .slice (some ⟨w.heap.size, 0, none⟩) 1 1) (hn : l.length ≤ 100000000000000) (hbase : base ≤ w.heap.size)
    (h : ∀ v' w', Own8 w' base v' (l ++ [10]) → (w.alloc (.cells #[.int .u8 10] 5)).grownBy w' v.ownBlock → wpList Tryz.prog ops Q rest (a.put o.dst v') w') :
    wpList Tryz.prog ops Q (o :: rest) a (w.alloc (.cells #[.int .u8 10] 5)) := by
  obtain ⟨i0, hi, hz0, hz1, hz2⟩ := info_of info8
  refine wpList_append_own _ hgd s x 93 ho base 5 i0 (.int .u8 0) 1 1 Tryz.underlying93 hi hz0 hz1 hz2 rfl (by decide) v l.length (bc l) hs (hown.alloc _) ⟨w.heap.size, 0, none⟩ 1 1 [.int .u8 10] hx rfl (L.cell_one _ _ _) (by intro u hu; simp at hu; subst hu; rfl) (by unfold maxLen; omega) (by omega) (by simp; omega) ?_
  intro v' w' h1 h2 _
  refine h v' w' ?_ h2
  unfold L.Own8
  rw [List.length_append, bc_app]
  exact h1

/-! ### the writer -/

/-- block N, not below B, is a writer with the text l and d blocks -/
def Wr (w : World) (B N : Nat) (l : Str) (d : Nat) : Prop := B ≤ N ∧ ∃ v, w.heap[N]? = some (.cells #[v, .int .i64 (d : Int)] 95 (0, 0)) ∧ Own8 w B v l
/-- block k is a row of bytes -/
def Row8 (w : World) (k : Nat) : Prop := ∃ cs f, w.heap[k]? = some (.cells cs 5 f)
/-- what a writer at block N leaves as it was: what lies below B, and what is neither the writer nor a row of bytes -/
structure Fr (B N : Nat) (w w' : World) : Prop where
  os : w'.os = w.os
  tape : w'.tape = w.tape
  output : w'.output = w.output
  size : w.heap.size ≤ w'.heap.size
  block : ∀ k, k < w.heap.size → k ≠ N → (k < B ∨ ¬ Row8 w k) → w'.heap[k]? = w.heap[k]?
theorem Fr.refl (B N : Nat) (w : World) : Fr B N w w := ⟨rfl, rfl, rfl, Nat.le_refl _, fun _ _ _ _ => rfl⟩
theorem Fr.trans {B N : Nat} {w w1 w2 : World} (h : Fr B N w w1) (h2 : Fr B N w1 w2) : Fr B N w w2 :=
  ⟨h2.os.trans h.os, h2.tape.trans h.tape, h2.output.trans h.output, Nat.le_trans h.size h2.size, fun k hk hn hr => by
    have e := h.block k hk hn hr
    refine (h2.block k (Nat.lt_of_lt_of_le hk h.size) hn (hr.imp id fun hx hy => hx ?_)).trans e
    obtain ⟨cs, f, hy⟩ := hy
    exact ⟨cs, f, e ▸ hy⟩⟩
theorem Fr.of {B N : Nat} {w w' : World} (h : Below w.heap.size w w') : Fr B N w w' := ⟨h.os, h.tape, h.output, h.size, fun k hk _ _ => h.block k hk⟩
theorem Fr.below {B N : Nat} {w w' : World} (h : Fr B N w w') (hB : B ≤ N) (hw : B ≤ w.heap.size) : Below B w w' := ⟨h.os, h.tape, h.output, h.size, fun k hk => h.block k (by omega) (by omega) (Or.inl hk)⟩
theorem Wr.lt {w : World} {B N : Nat} {l : Str} {d : Nat} (h : Wr w B N l d) : N < w.heap.size := by
  obtain ⟨_, v, hN, _⟩ := h
  exact (Array.getElem?_eq_some_iff.1 hN).1
theorem Wr.later {w w' : World} {B N : Nat} {l : Str} {d : Nat} (h : Wr w B N l d) (hb : Below w.heap.size w w') : Wr w' B N l d := by
  have hlt := h.lt
  obtain ⟨hB, v, hN, ho⟩ := h
  exact ⟨hB, v, (hb.block N hlt).trans hN, ho.below hb⟩
/-- a row of bytes is no block of another type -/
theorem own_apart {w : World} {B : Nat} {v : Value} {l : Str} (h : Own8 w B v l) {k : Nat} {cs : Array Value} {t : TypeId} {f : Nat × Nat} (hk : w.heap[k]? = some (.cells cs t f)) (ht : t ≠ 5) : some k ≠ v.ownBlock := by
  intro e
  rcases h.2 with ⟨rfl, _⟩ | ⟨g, cap, cur, rfl, _, hg, _⟩
  · cases e
  · simp only [Value.ownBlock, Option.some.injEq] at e
    subst e
    rw [hk] at hg
    simp only [Option.some.injEq, Obj.cells.injEq] at hg
    exact ht hg.2.1
theorem own_row {w : World} {B : Nat} {v : Value} {l : Str} (h : Own8 w B v l) {k : Nat} (hk : ¬ Row8 w k) : some k ≠ v.ownBlock := by
  intro e
  rcases h.2 with ⟨rfl, _⟩ | ⟨g, cap, cur, rfl, _, hg, _⟩
  · cases e
  · simp only [Value.ownBlock, Option.some.injEq] at e
    subst e
    exact hk ⟨cur, (0, 0), hg⟩
theorem own_shape {w : World} {B : Nat} {v : Value} {l : Str} (h : Own8 w B v l) : ∃ p n q, v = .slice p n q := by
  rcases h.2 with ⟨rfl, _⟩ | ⟨g, cap, cur, rfl, _⟩
  · exact ⟨none, 0, 0, rfl⟩
  · exact ⟨_, _, _, rfl⟩
theorem wt_ne : 95 ≠ 5 := by decide
/-- the text is stored -/
theorem Wr.put {w w1 : World} {B N : Nat} {v v' : Value} {l' l : Str} {d : Nat} (hB : B ≤ N) (hN : w.heap[N]? = some (.cells #[v, .int .i64 (d : Int)] 95 (0, 0))) (ho : Own8 w B v l)
    (h1 : Own8 w1 B v' l') (hg : w.grownBy w1 v.ownBlock) : Wr (w1.setCell ⟨N, 0, none⟩ v') B N l' d ∧ Fr B N w (w1.setCell ⟨N, 0, none⟩ v') := by
  have hlt := (Array.getElem?_eq_some_iff.1 hN).1
  have hN1 : w1.heap[N]? = some (.cells #[v, .int .i64 (d : Int)] 95 (0, 0)) := (hg.block N hlt (own_apart ho hN wt_ne)).trans hN
  have hs : w1.grownBy (w1.setCell ⟨N, 0, none⟩ v') (some N) := ⟨rfl, rfl, rfl, by simp [World.setCell], fun k _ hk => Below.heap_setCell _ _ _ k (fun e => hk (by rw [e]))⟩
  refine ⟨⟨hB, v', by simp [World.setCell, Array.getElem?_modify, hN1], ?_⟩, ?_⟩
  · refine World.ownsRow.kept h1 hs ?_
    by_cases hn : v'.ownBlock = none
    · exact Or.inl hn
    · exact Or.inr (fun e => own_apart h1 hN1 wt_ne e.symm)
  · refine ⟨hg.os, hg.tape, hg.output, Nat.le_trans hg.size hs.size, fun k hk hn hr => ?_⟩
    rw [Below.heap_setCell _ _ _ k hn]
    refine hg.block k hk (fun e => ?_)
    rcases hr with hr | hr
    · have := ho.ge k e.symm; omega
    · exact own_row ho hr e
/-- what is seen of the writer -/
theorem Wr.open {w : World} {B N : Nat} {l : Str} {d : Nat} (h : Wr w B N l d) : ∃ v, w.heap[N]? = some (.cells #[v, .int .i64 (d : Int)] 95 (0, 0)) ∧ Own8 w B v l ∧ w.cell? ⟨N, 0, none⟩ = some v ∧ w.cell? ⟨N, 1, none⟩ = some (.int .i64 (d : Int)) ∧ w.frozen? ⟨N, 0, none⟩ = false ∧ w.frozen? ⟨N, 1, none⟩ = false := by
  obtain ⟨_, v, hN, ho⟩ := h
  exact ⟨v, hN, ho, by rw [Lib.cell_of_heap hN]; rfl, by rw [Lib.cell_of_heap hN]; rfl, Lib.frozen_of_heap hN 0, Lib.frozen_of_heap hN 1⟩
theorem Wr.kept {w w1 : World} {B N : Nat} {v : Value} {l : Str} {d : Nat} (hN : w.heap[N]? = some (.cells #[v, .int .i64 (d : Int)] 95 (0, 0))) (ho : Own8 w B v l) (hg : w.grownBy w1 v.ownBlock) :
    w1.cell? ⟨N, 0, none⟩ = some v ∧ w1.cell? ⟨N, 1, none⟩ = some (.int .i64 (d : Int)) ∧ w1.frozen? ⟨N, 0, none⟩ = false ∧ w1.frozen? ⟨N, 1, none⟩ = false := by
  have hlt := (Array.getElem?_eq_some_iff.1 hN).1
  have hN1 : w1.heap[N]? = some (.cells #[v, .int .i64 (d : Int)] 95 (0, 0)) := (hg.block N hlt (own_apart ho hN wt_ne)).trans hN
  exact ⟨by rw [Lib.cell_of_heap hN1]; rfl, by rw [Lib.cell_of_heap hN1]; rfl, Lib.frozen_of_heap hN1 0, Lib.frozen_of_heap hN1 1⟩
/-- the strings at a -/
def Strs (w : World) (N : Nat) (a : Option Addr) (xs : List ByteArray) : Prop := xs = [] ∨ ∃ b o, a = some ⟨b, o, none⟩ ∧ b ≠ N ∧ b < w.heap.size ∧ ¬ Row8 w b ∧ ∀ j x, xs[j]? = some x → w.cell? ⟨b, o + j, none⟩ = some (.string x)
theorem Strs.fr {w w' : World} {B N : Nat} {a : Option Addr} {xs : List ByteArray} (h : Strs w N a xs) (hf : Fr B N w w') : Strs w' N a xs := by
  rcases h with h | ⟨b, o, ha, hn, hlt, hr, hc⟩
  · exact Or.inl h
  · have e := hf.block b hlt hn (Or.inr hr)
    refine Or.inr ⟨b, o, ha, hn, Nat.lt_of_lt_of_le hlt hf.size, fun ⟨cs, f, hy⟩ => hr ⟨cs, f, e ▸ hy⟩, fun j x hx => (World.cell?_of_block (a := ⟨b, o + j, none⟩) e).trans (hc j x hx)⟩
theorem Strs.open {w : World} {N : Nat} {a : Option Addr} {xs : List ByteArray} (h : Strs w N a xs) {k : Nat} (hk : k < xs.length) : ∃ b o, a = some ⟨b, o, none⟩ ∧ w.cell? ⟨b, o + k, none⟩ = some (.string xs[k]) := by
  rcases h with rfl | ⟨b, o, ha, _, _, _, hc⟩
  · cases hk
  · exact ⟨b, o, ha, hc k _ (List.getElem?_eq_getElem hk)⟩
def joinS (xs : List ByteArray) : Str := (xs.map fun x => x.data.toList).flatten
theorem joinS_snoc {xs : List ByteArray} {k : Nat} (h : k < xs.length) : joinS (xs.take (k + 1)) = joinS (xs.take k) ++ xs[k].data.toList := by
  unfold joinS
  rw [List.take_succ_eq_append_getElem h, List.map_append, List.flatten_append]
  simp only [List.map_cons, List.map_nil, List.flatten_cons, List.flatten_nil, List.append_nil]
theorem joinS_len (xs : List ByteArray) (k : Nat) : (joinS (xs.take k)).length ≤ (joinS xs).length := by
  unfold joinS
  induction xs generalizing k with
  | nil => simp
  | cons x r ih =>
    cases k with
    | zero => simp
    | succ k =>
      have := ih k
      simp only [List.take_succ_cons, List.map_cons, List.flatten_cons, List.length_append]
      omega
theorem oind_succ (k : Nat) : ind (k + 1) = ind k ++ [32, 32, 32, 32] := by
  unfold ind
  rw [show 4 * (k + 1) = 4 * k + 4 by omega, ← List.replicate_append_replicate]; rfl
set_option maxHeartbeats 2000000 in
set_option maxRecDepth 100000 in
theorem oline_any (B N : Nat) (l : Str) (d : Nat) (a : Option Addr) (c : Nat) (xs : List ByteArray) (hd : d ≤ 1000) (hlen : xs.length ≤ 1000) (hl : l.length + (joinS xs).length ≤ 10000000000000) (w : World) (hBw : B ≤ w.heap.size) (hW : Wr w B N l d) (hS : Strs w N a xs) :
    Calls Tryz.prog 61 #[.pointer (some ⟨N, 0, none⟩), .slice a xs.length c] w fun e w' => e = .returned (.tuple #[]) ∧ Wr w' B N (l ++ (ind d ++ (joinS xs ++ [10]))) d ∧ Fr B N w w' := by
  have hB := hW.1
  have HW := Lib.hid hW
  have HS := Lib.hid hS
  have HJ := Lib.hid (fun k => joinS_len xs k)
  obtain ⟨v0, hN0, hO0, c0, c1, _, _⟩ := hW.open
  clear hW hS hN0 hO0 c0
  obtain ⟨m, hm⟩ : ∃ m, xs.length = m := ⟨_, rfl⟩
  have HL := Lib.hid hm
  rw [hm] at hlen ⊢
  clear hm
  go_enter Tryz.func61, Tryz.ntmps61
  go_wp2_with fail
  clear c1
  go_loopw [10] (fun s10 wr => ∃ k : Nat, k ≤ d ∧ s10 = .int .i64 k ∧ Hid (Wr wr B N (l ++ ind k) d) ∧ Hid (Fr B N w wr)) (fun s10 _ => d - (intOf s10).toNat)
  case atStart => exact ⟨0, Nat.zero_le _, rfl, (by rw [show ind 0 = [] from rfl, List.append_nil]; exact HW.out), Fr.refl _ _ _⟩
  case round =>
    obtain ⟨k, hk, rfl, HWr, HF⟩ := hrel
    have hsz := HF.out.size
    obtain ⟨v, hN, hO, c0, c1, f0, f1⟩ := HWr.out.open
    have HN := Lib.hid hN
    have HO := Lib.hid hO
    by_cases hlt : k < d
    · have bl : decide (k < d) = true := decide_eq_true hlt
      have hln : (l ++ ind k).length + 4 ≤ 100000000000000 := by rw [List.length_append, ind_len]; omega
      clear hN hO c1 f1
      go_wp2_with (at_builtin; refine wpList_append_line rfl (.tmp 16) _ rfl B v _ rfl HO.out ⟨#[32, 32, 32, 32]⟩ rfl hln (by omega) ?_; intro v1 w1 hown1 hgrow1; obtain ⟨p1, n1, q1, rfl⟩ := own_shape hown1; have HP := Lib.hid (Wr.put hB HN.out HO.out hown1 hgrow1); obtain ⟨g0, g1, g2, g3⟩ := Wr.kept HN.out HO.out hgrow1; clear hown1 hgrow1)
      go_roundw
      case rel => exact ⟨k + 1, by omega, by go_num, (by rw [oind_succ, ← List.append_assoc]; exact HP.out.1), HF.out.trans HP.out.2⟩
      case measure => simp [intOf]; omega
    · have bl : decide (k < d) = false := decide_eq_false hlt
      obtain rfl : d = k := by omega
      clear hN hO c0 c1 f0 f1
      go_wp2_with fail
      go_loopw [23] (fun s23 wr => ∃ j : Nat, j ≤ m ∧ s23 = .int .i64 j ∧ Hid (Wr wr B N (l ++ ind d ++ joinS (xs.take j)) d) ∧ Hid (Fr B N w wr)) (fun s23 _ => m - (intOf s23).toNat)
      case atStart => exact ⟨0, Nat.zero_le _, rfl, (by rw [show joinS (xs.take 0) = [] from rfl, List.append_nil]; exact HWr.out), HF.out⟩
      case round =>
        obtain ⟨j, hj, rfl, HWq, HFq⟩ := hrel
        have hsq := HFq.out.size
        obtain ⟨u, hN, hO, c0, c1, f0, f1⟩ := HWq.out.open
        have HNq := Lib.hid hN
        have HOq := Lib.hid hO
        have hjl := HJ.out j
        by_cases hlj : j < m
        · have hlx : j < xs.length := by rw [HL.out]; exact hlj
          obtain ⟨b, o, rfl, hc⟩ := (HS.out.fr HFq.out).open hlx
          have hsn := joinS_snoc hlx
          have hj1 := HJ.out (j + 1)
          rw [hsn, List.length_append] at hj1
          have hln : (l ++ ind d ++ joinS (xs.take j)).length + xs[j].size ≤ 100000000000000 := by rw [List.length_append, List.length_append, ind_len, size_len]; omega
          have HSn := Lib.hid hsn
          generalize xs[j] = x at hc hln HSn
          clear hN hO c1 f1 hsn hj1 hjl
          go_wp2_with (at_builtin; refine wpList_append_line rfl (.tmp 31) _ rfl B u _ rfl HOq.out x rfl hln (by omega) ?_; intro v1 w1 hown1 hgrow1; obtain ⟨p1, n1, q1, rfl⟩ := own_shape hown1; have HP := Lib.hid (Wr.put hB HNq.out HOq.out hown1 hgrow1); obtain ⟨g0, g1, g2, g3⟩ := Wr.kept HNq.out HOq.out hgrow1; clear hown1 hgrow1)
          go_roundw
          case rel => exact ⟨j + 1, by omega, by go_num, (by rw [HSn.out, ← List.append_assoc]; exact HP.out.1), HFq.out.trans HP.out.2⟩
          case measure => simp [intOf]; omega
        · have HWe : Hid (joinS (xs.take j) = joinS xs) := by show _ = _; rw [List.take_of_length_le (by rw [HL.out]; omega)]
          have hln : (l ++ ind d ++ joinS (xs.take j)).length ≤ 100000000000000 := by rw [List.length_append, List.length_append, ind_len]; omega
          have HNa : Hid ((wr.alloc (.cells #[.int .u8 10] 5)).heap[N]? = some (.cells #[u, .int .i64 (d : Int)] 95 (0, 0))) := ((below_box wr _).block N HWq.out.lt).trans hN
          have HOa := Lib.hid (HOq.out.alloc (.cells #[.int .u8 10] 5))
          clear hN hO c1 f1 hjl
          go_wp2_with (at_builtin; refine wpList_append_feed rfl (.tmp 41) _ rfl B u _ rfl HOq.out rfl hln (by omega) ?_; intro v1 w1 hown1 hgrow1; obtain ⟨p1, n1, q1, rfl⟩ := own_shape hown1; have HP := Lib.hid (Wr.put hB HNa.out HOa.out hown1 hgrow1); obtain ⟨g0, g1, g2, g3⟩ := Wr.kept HNa.out HOa.out hgrow1; clear hown1 hgrow1)
          go_end0
          exact ⟨rfl, (by rw [HWe.out] at HP; rw [← List.append_assoc, ← List.append_assoc]; exact HP.out.1), HFq.out.trans ((Fr.of (below_box wr _)).trans HP.out.2)⟩
end Go.Proofs.YteglaeopaocilaaGreatDoor.P
