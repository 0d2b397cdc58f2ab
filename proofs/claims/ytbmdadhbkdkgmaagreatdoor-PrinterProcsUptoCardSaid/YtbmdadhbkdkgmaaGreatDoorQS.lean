/-
  What the reference of layer 9 returns: indent, block (over stmt): contracts; the lines of statements.
  What the reference of layer 9 returns: stmt: contracts, a kind of statement each.
-/
import Derived.Test.YtbmdadhbkdkgmaaGreatDoorQR
import Derived.Test.YtbmdadhbkdkgmaaGreatDoorGH
import Derived.Test.YtbmdadhbkdkgmaaGreatDoorARefsH
namespace Go.Proofs.YtbmdadhbkdkgmaaGreatDoor.P
open Go.RowKit
open L (Str isName prt size_len below_2 below_box ret_bool ret_int ret_string bytes_eq append_list)
open A

theorem ind_succ (k : Nat) : ind (k + 1) = ind k ++ [32, 32, 32, 32] := by
  unfold ind
  rw [show 4 * (k + 1) = 4 * k + 4 by omega, ← List.replicate_append_replicate]; rfl
theorem ind_size (d : Nat) : (ba (ind d)).size = 4 * d := by rw [ba_size, ind_len]
set_option maxHeartbeats 2000000 in
set_option maxRecDepth 100000 in
theorem rindent_any (d : Nat) (hd : d ≤ 1000) (w : World) : Calls Tryz.prog 57 #[.int .i64 (d : Int)] w fun e w' => e = .returned (.string (ba (ind d))) ∧ w = w' := by
  go_enter Tryz.func57, Tryz.ntmps57
  go_wp2_with fail
  go_loop [3, 4] (fun s i => ∃ (k : Nat) (t : ByteArray), k ≤ d ∧ i = .int .i64 k ∧ s = .string t ∧ t.size ≤ 4 * k ∧ Hid (t.data.toList = ind k)) (fun _ i => d - (intOf i).toNat)
  case atStart => exact ⟨0, ⟨#[]⟩, Nat.zero_le _, rfl, rfl, Nat.zero_le _, rfl⟩
  case round =>
    obtain ⟨k, t, hk, rfl, rfl, hz, HT⟩ := hrel
    by_cases hlt : k < d
    · have HN : Hid ((t ++ ⟨#[32, 32, 32, 32]⟩).data.toList = ind (k + 1)) := by show _ = _; rw [append_list, HT.out, ind_succ]
      have hz2 : (t ++ ⟨#[32, 32, 32, 32]⟩ : ByteArray).size ≤ 4 * (k + 1) := by rw [size_len, HN.out, ind_len]; omega
      go_wp2_with fail
      go_round
      case rel => exact ⟨k + 1, _, by omega, by go_num, rfl, hz2, HN⟩
      case measure => simp [intOf]; omega
    · have HV : Hid (t.data.toList = ind d) := by show _ = _; rw [HT.out, show k = d by omega]
      go_wp2_with fail
      go_ret
      exact ⟨ret_string (ba_eq HV.out), rfl⟩
/-- what stmt and block of the reference return -/
def RSt (s : St) (d : Nat) : Prop := (txS s d).length ≤ 1000000000 → ∀ (a1 : Option Addr) (c1 : Nat) (a2 : Option Addr) (c2 : Nat) (a3 : Option Addr) (c3 : Nat) (a4 : Option Addr) (c4 : Nat) (w : World), StKids w s a1 a2 a3 a4 →
  Calls Tryz.prog 29 #[stC s a1 c1 a2 c2 a3 c3 a4 c4, .int .i64 (d : Int)] w fun e w' => e = .returned (.string (ba (txS s d))) ∧ Below w.heap.size w w'
def RBk (l : List St) (d : Nat) : Prop := (txB l d).length ≤ 1000000000 → ∀ (a : Option Addr) (c : Nat) (w : World), A.Bodies w a l →
  Calls Tryz.prog 14 #[.slice a l.length c, .int .i64 (d : Int)] w fun e w' => e = .returned (.string (ba (txB l d))) ∧ Below w.heap.size w w'
theorem txB_snoc {l : List St} {k : Nat} (h : k < l.length) (d : Nat) : txB (l.take (k + 1)) d = txB (l.take k) d ++ txS l[k] d := by
  have app : ∀ a b : List St, txB (a ++ b) d = txB a d ++ txB b d := by
    intro a b
    induction a with
    | nil => simp [txB]
    | cons s r ih => rw [List.cons_append, txB, txB, ih, List.append_assoc]
  rw [List.take_succ_eq_append_getElem h, app, txB, txB, List.append_nil]
theorem txB_take (l : List St) (k : Nat) (d : Nat) : (txB (l.take k) d).length ≤ (txB l d).length := by
  induction l generalizing k with
  | nil => simp
  | cons s r ih =>
    cases k with
    | zero => simp [txB]
    | succ k => rw [List.take_succ_cons, txB, txB, List.length_append, List.length_append]; have := ih k; omega
theorem txB_each {l : List St} {k : Nat} (h : k < l.length) (d : Nat) : (txS l[k] d).length ≤ (txB l d).length := by
  have h1 := txB_take l (k + 1) d
  rw [txB_snoc h, List.length_append] at h1
  omega
set_option maxHeartbeats 4000000 in
set_option maxRecDepth 100000 in
theorem rblock_any (l : List St) (d : Nat) (_hd : d ≤ 1000) (hl : l.length ≤ 1000000000000000) (H : ∀ s ∈ l, RSt s d) : RBk l d := by
  intro hz a c w hK
  have HH := Lib.hid (fun (k : Nat) (hk : k < l.length) => H l[k] (List.getElem_mem hk) (Nat.le_trans (txB_each hk d) hz))
  have HK := Lib.hid hK
  have HZ := Lib.hid (fun k => Nat.le_trans (txB_take l k d) hz)
  obtain ⟨m, hm⟩ : ∃ m, l.length = m := ⟨_, rfl⟩
  have HL := Lib.hid hm
  rw [hm] at hl ⊢
  clear hm H hK hz
  go_enter Tryz.func14, Tryz.ntmps14
  go_wp2_with fail
  go_loopw [5, 6] (fun s i wr => ∃ (k : Nat) (t : ByteArray), k ≤ m ∧ i = .int .i64 k ∧ s = .string t ∧ t.size ≤ 1000000000 ∧ Hid (t.data.toList = txB (l.take k) d) ∧ Below w.heap.size w wr) (fun _ i _ => m - (intOf i).toNat)
  case atStart => exact ⟨0, ⟨#[]⟩, Nat.zero_le _, rfl, rfl, Nat.zero_le _, by rw [List.take_zero, txB]; rfl, Below.refl _ _⟩
  case round =>
    obtain ⟨k, t, hk, rfl, rfl, hz, HT, hb⟩ := hrel
    by_cases hlt : k < m
    · have hlx : k < l.length := by rw [HL.out]; exact hlt
      obtain ⟨b2, i2, rfl, hat⟩ := (HK.out.below hb).open hlx
      have hS := HH.out k hlx
      have hsn := txB_snoc hlx d
      have hzn := HZ.out (k + 1)
      have hzs : (ba (txS l[k] d)).size ≤ 1000000000 := by rw [ba_size]; rw [hsn, List.length_append] at hzn; omega
      have HX := Lib.hid (ba_list (txS l[k] d))
      have HN : Hid ((t ++ ba (txS l[k] d)).data.toList = txB (l.take (k + 1)) d) := by show _ = _; rw [append_list, HT.out, hsn, HX.out]
      have hz2 : (t ++ ba (txS l[k] d)).size ≤ 1000000000 := by rw [size_len, HN.out]; exact hzn
      generalize ba (txS l[k] d) = T at hS hzs HX HN hz2
      generalize l[k] = s at hat hS HX hsn
      obtain ⟨a1, c1, a2, c2, a3, c3, a4, c4, hcs, hks⟩ := hat.open
      have HS := Lib.hid (hS a1 c1 a2 c2 a3 c3 a4 c4 wr hks)
      obtain ⟨k0, k1, k2, k3, k4, k5, k6, k7, k8, k9, k10, k11, k12⟩ := hcs
      have HB := Lib.hid hb
      unfold stC at HS
      clear hat hS hks hsn hzn hb
      go_wp2_with fail
      refine HS.out.mono ?_; rintro e w2 ⟨rfl, hb2⟩
      have HB2 := Lib.hid (below_2 HB.out hb2)
      clear hb2
      go_wp2_with fail
      go_roundw
      case rel => exact ⟨k + 1, _, by omega, by go_num, rfl, hz2, HN, HB2.out⟩
      case measure => simp [intOf]; omega
    · have HV : Hid (t.data.toList = txB l d) := by show _ = _; rw [HT.out, List.take_of_length_le (by rw [HL.out]; omega)]
      go_wp2_with fail
      go_ret
      exact ⟨ret_string (ba_eq HV.out), hb⟩
theorem stC_mk (o : Int) (nm : ByteArray) (mx : Int) (a b : Ex) (bd el : List St) (a1 : Option Addr) (c1 : Nat) (a2 : Option Addr) (c2 : Nat) (a3 : Option Addr) (c3 : Nat) (a4 : Option Addr) (c4 : Nat) : stC (.mk o nm mx a b bd el) a1 c1 a2 c2 a3 c3 a4 c4 = .agg #[.int .i64 o, .string nm, .int .i64 mx, .int .i64 a.op, .int .i64 a.n, .string a.s, .slice a1 a.args.length c1, .int .i64 b.op, .int .i64 b.n, .string b.s, .slice a2 b.args.length c2, .slice a3 bd.length c3, .slice a4 el.length c4] := rfl
theorem stO_mk (o : Int) (nm : ByteArray) (mx : Int) (a b : Ex) (bd el : List St) (a1 : Option Addr) (c1 : Nat) (a2 : Option Addr) (c2 : Nat) (a3 : Option Addr) (c3 : Nat) (a4 : Option Addr) (c4 : Nat) : stO (.mk o nm mx a b bd el) a1 c1 a2 c2 a3 c3 a4 c4 = .cells #[.int .i64 o, .string nm, .int .i64 mx, .int .i64 a.op, .int .i64 a.n, .string a.s, .slice a1 a.args.length c1, .int .i64 b.op, .int .i64 b.n, .string b.s, .slice a2 b.args.length c2, .slice a3 bd.length c3, .slice a4 el.length c4] 51 := rfl
/-- a box's cells, in every later world -/
structure StG (W : World) (B : Nat) (o : Int) (nm : ByteArray) (mx : Int) (a b : Ex) (bd el : List St) (a1 : Option Addr) (c1 : Nat) (a2 : Option Addr) (c2 : Nat) (a3 : Option Addr) (c3 : Nat) (a4 : Option Addr) (c4 : Nat) : Prop where
  k0 : ∀ d os, (Sort.grow (redrawn W d) os).cell? ⟨B, 0, none⟩ = some (.int .i64 o)
  k1 : ∀ d os, (Sort.grow (redrawn W d) os).cell? ⟨B, 1, none⟩ = some (.string nm)
  k2 : ∀ d os, (Sort.grow (redrawn W d) os).cell? ⟨B, 2, none⟩ = some (.int .i64 mx)
  k3 : ∀ d os, (Sort.grow (redrawn W d) os).cell? ⟨B, 3, none⟩ = some (.int .i64 a.op)
  k4 : ∀ d os, (Sort.grow (redrawn W d) os).cell? ⟨B, 4, none⟩ = some (.int .i64 a.n)
  k5 : ∀ d os, (Sort.grow (redrawn W d) os).cell? ⟨B, 5, none⟩ = some (.string a.s)
  k6 : ∀ d os, (Sort.grow (redrawn W d) os).cell? ⟨B, 6, none⟩ = some (.slice a1 a.args.length c1)
  k7 : ∀ d os, (Sort.grow (redrawn W d) os).cell? ⟨B, 7, none⟩ = some (.int .i64 b.op)
  k8 : ∀ d os, (Sort.grow (redrawn W d) os).cell? ⟨B, 8, none⟩ = some (.int .i64 b.n)
  k9 : ∀ d os, (Sort.grow (redrawn W d) os).cell? ⟨B, 9, none⟩ = some (.string b.s)
  k10 : ∀ d os, (Sort.grow (redrawn W d) os).cell? ⟨B, 10, none⟩ = some (.slice a2 b.args.length c2)
  k11 : ∀ d os, (Sort.grow (redrawn W d) os).cell? ⟨B, 11, none⟩ = some (.slice a3 bd.length c3)
  k12 : ∀ d os, (Sort.grow (redrawn W d) os).cell? ⟨B, 12, none⟩ = some (.slice a4 el.length c4)
theorem StG.new (w : World) (o : Int) (nm : ByteArray) (mx : Int) (a b : Ex) (bd el : List St) (a1 : Option Addr) (c1 : Nat) (a2 : Option Addr) (c2 : Nat) (a3 : Option Addr) (c3 : Nat) (a4 : Option Addr) (c4 : Nat) :
    StG (w.alloc (stO (.mk o nm mx a b bd el) a1 c1 a2 c2 a3 c3 a4 c4)) w.heap.size o nm mx a b bd el a1 c1 a2 c2 a3 c3 a4 c4 := by
  obtain ⟨k0, k1, k2, k3, k4, k5, k6, k7, k8, k9, k10, k11, k12⟩ := stO_cells w (.mk o nm mx a b bd el) a1 c1 a2 c2 a3 c3 a4 c4
  exact ⟨fun d os => cell_regrown k0 d os, fun d os => cell_regrown k1 d os, fun d os => cell_regrown k2 d os, fun d os => cell_regrown k3 d os, fun d os => cell_regrown k4 d os, fun d os => cell_regrown k5 d os, fun d os => cell_regrown k6 d os, fun d os => cell_regrown k7 d os, fun d os => cell_regrown k8 d os, fun d os => cell_regrown k9 d os, fun d os => cell_regrown k10 d os, fun d os => cell_regrown k11 d os, fun d os => cell_regrown k12 d os⟩
theorem txS_1 (nm : ByteArray) (a : Ex) (d : Nat) : txS (.mk 1 nm 0 a noE [] []) d = ind d ++ (kLet ++ 32 :: (str nm ++ 32 :: 61 :: 32 :: (tx a ++ eos))) := by rw [txS]; rfl
theorem txS_2 (nm : ByteArray) (a : Ex) (d : Nat) : txS (.mk 2 nm 0 a noE [] []) d = ind d ++ (str nm ++ 32 :: 61 :: 32 :: (tx a ++ eos)) := by rw [txS]; rfl
theorem txS_3 (a b : Ex) (d : Nat) : txS (.mk 3 none8 0 a b [] []) d = ind d ++ (kPut ++ 32 :: (tx a ++ 32 :: 61 :: 32 :: (tx b ++ eos))) := by rw [txS]; rfl
theorem txS_4 (a : Ex) (d : Nat) : txS (.mk 4 none8 0 a noE [] []) d = ind d ++ (kDel ++ 32 :: (tx a ++ eos)) := by rw [txS]; rfl
theorem txS_7 (a : Ex) (d : Nat) : txS (.mk 7 none8 0 a noE [] []) d = ind d ++ (kEmit ++ 32 :: (tx a ++ eos)) := by rw [txS]; rfl
theorem txS_8 (m : Int) (d : Nat) : txS (.mk 8 none8 m noE noE [] []) d = ind d ++ (kAbort ++ 32 :: (Go.Lib.itoa m ++ eos)) := by rw [txS]; rfl
theorem txS_6 (nm : ByteArray) (m : Int) (a b : Ex) (bd : List St) (d : Nat) : txS (.mk 6 nm m a b bd []) d = ind d ++ (kFor ++ 32 :: (str nm ++ 32 :: 61 :: 32 :: (tx a ++ 32 :: (kTo ++ 32 :: (tx b ++ 32 :: (kMax ++ 32 :: (Go.Lib.itoa m ++ (opb ++ (txB bd (d + 1) ++ (ind d ++ [125, 10])))))))))) := by rw [txS]; rfl
theorem txS_5 (a : Ex) (bd el : List St) (d : Nat) : txS (.mk 5 none8 0 a noE bd el) d = ind d ++ (kIf ++ 32 :: (tx a ++ (opb ++ (txB bd (d + 1) ++ (ind d ++ 125 :: ((if el.isEmpty then [] else 32 :: (kElse ++ (opb ++ (txB el (d + 1) ++ (ind d ++ [125]))))) ++ [10])))))) := by rw [txS]; rfl
end Go.Proofs.YtbmdadhbkdkgmaaGreatDoor.P
namespace Go.Proofs.YtbmdadhbkdkgmaaGreatDoor.P
open Go.RowKit
open L (Str isName prt size_len below_2 below_box ret_bool ret_int ret_string bytes_eq append_list)
open A

theorem below_of {W w4 : World} {d : Nat} {os : Array Obj} (h : w4 = Sort.grow (redrawn W d) os) : Below W.heap.size W w4 := h ▸ below_regrown W d os
theorem noE_op : noE.op = 0 := rfl
theorem noE_n : noE.n = 0 := rfl
theorem noE_s : noE.s = none8 := rfl
theorem noE_args : noE.args = [] := rfl
theorem nam_size {s : ByteArray} (h : nam s = true) : s.size ≤ 16 := nam_len h
theorem itoa_size {n : Int} (h0 : 0 ≤ n) (h : n ≤ 9223372036854775807) : (ba (Go.Lib.itoa n)).size ≤ 19 := by rw [ba_size]; exact itoa_len h0 h
theorem rfmt_any (n : Int) (h0 : 0 ≤ n) (h1 : n ≤ 9223372036854775807) (w : World) : Calls Tryz.prog 46 #[.int .i64 n] w fun e w' => e = .returned (.string (ba (Go.Lib.itoa n))) ∧ Below w.heap.size w w' := rformat_any n (by omega) h1 w
set_option maxHeartbeats 4000000 in
set_option maxRecDepth 100000 in
theorem rst_dec (nm : ByteArray) (a : Ex) (hn : nam nm = true) (wa : W 12 a) (d : Nat) (hd : d ≤ 100) : RSt (.mk 1 nm 0 a noE [] []) d := by
  intro hlen a1 c1 a2 c2 a3 c3 a4 c4 w hK
  have hb := below_box w (stO (.mk 1 nm 0 a noE [] []) a1 c1 a2 c2 a3 c3 a4 c4)
  have HB := Lib.hid hb
  have HK := Lib.hid (hK.below hb)
  have HG := Lib.hid (StG.new w 1 nm 0 a noE [] [] a1 c1 a2 c2 a3 c3 a4 c4)
  have HI := Lib.hid (fun w => rindent_any d (by omega) w)
  have zi := ind_size d
  have HII := Lib.hid (ba_list (ind d))
  have HA := Lib.hid (fun (d : Nat) (os : Array Obj) => Calls.regrown_of (d := d) (os := os) (rtext_any wa (by decide) a1 c1 _ (HK.out.a.below (below_regrown _ d os))))
  have za := tx_size wa (by decide)
  have HAA := Lib.hid (ba_list (tx a))
  have zn := nam_size hn
  have HV := Lib.hid (txS_1 nm a d)
  rw [HV.out]
  generalize ba (ind d) = I at HI zi HII
  unfold exV at HA
  generalize ba (tx a) = X at HA HAA za
  obtain ⟨g0, g1, g2, g3, g4, g5, g6, g7, g8, g9, g10, g11, g12⟩ := HG.out
  simp only [stC_mk, stO_mk, List.length_nil, noE_op, noE_n, noE_s, noE_args] at *
  clear hb hK HV hlen HG wa hn
  go_enter Tryz.func29, Tryz.ntmps29
  go_wp2_with fail
  refine (HI.out _).mono ?_; rintro e w1 ⟨rfl, rfl⟩
  go_wp2_with fail
  refine wp_region_quiet_below (by kernel_rfl) (by kernel_rfl) ?_
  try simp only [List.append_eq, List.cons_append, List.nil_append]
  repeat (go_big_quiet_step (with_reducible first | exact HA.out _ _))
  refine wpQuiet_nil ?_
  intro w4 hw'
  obtain ⟨⟨dq, osq⟩, hw2⟩ := hw'
  have hb4 := below_of hw2
  have HB4 := Lib.hid (below_2 HB.out hb4)
  clear hw2 hb4
  go_wp2_with fail
  go_ret
  exact ⟨ret_string (ba_eq (by simp only [append_list, HII.out, HAA.out]; simp [kLet, eos, str])), HB4.out⟩
set_option maxHeartbeats 4000000 in
set_option maxRecDepth 100000 in
theorem rst_set (nm : ByteArray) (a : Ex) (hn : nam nm = true) (wa : W 12 a) (d : Nat) (hd : d ≤ 100) : RSt (.mk 2 nm 0 a noE [] []) d := by
  intro hlen a1 c1 a2 c2 a3 c3 a4 c4 w hK
  have hb := below_box w (stO (.mk 2 nm 0 a noE [] []) a1 c1 a2 c2 a3 c3 a4 c4)
  have HB := Lib.hid hb
  have HK := Lib.hid (hK.below hb)
  have HG := Lib.hid (StG.new w 2 nm 0 a noE [] [] a1 c1 a2 c2 a3 c3 a4 c4)
  have HI := Lib.hid (fun w => rindent_any d (by omega) w)
  have zi := ind_size d
  have HII := Lib.hid (ba_list (ind d))
  have HA := Lib.hid (fun (d : Nat) (os : Array Obj) => Calls.regrown_of (d := d) (os := os) (rtext_any wa (by decide) a1 c1 _ (HK.out.a.below (below_regrown _ d os))))
  have za := tx_size wa (by decide)
  have HAA := Lib.hid (ba_list (tx a))
  have zn := nam_size hn
  have HV := Lib.hid (txS_2 nm a d)
  rw [HV.out]
  generalize ba (ind d) = I at HI zi HII
  unfold exV at HA
  generalize ba (tx a) = X at HA HAA za
  obtain ⟨g0, g1, g2, g3, g4, g5, g6, g7, g8, g9, g10, g11, g12⟩ := HG.out
  simp only [stC_mk, stO_mk, List.length_nil, noE_op, noE_n, noE_s, noE_args] at *
  clear hb hK HV hlen HG wa hn
  go_enter Tryz.func29, Tryz.ntmps29
  go_wp2_with fail
  refine (HI.out _).mono ?_; rintro e w1 ⟨rfl, rfl⟩
  go_wp2_with fail
  refine wp_region_quiet_below (by kernel_rfl) (by kernel_rfl) ?_
  try simp only [List.append_eq, List.cons_append, List.nil_append]
  repeat (go_big_quiet_step (with_reducible first | exact HA.out _ _))
  refine wpQuiet_nil ?_
  intro w4 hw'
  obtain ⟨⟨dq, osq⟩, hw2⟩ := hw'
  have hb4 := below_of hw2
  have HB4 := Lib.hid (below_2 HB.out hb4)
  clear hw2 hb4
  go_wp2_with fail
  go_ret
  exact ⟨ret_string (ba_eq (by simp only [append_list, HII.out, HAA.out]; simp [eos, str])), HB4.out⟩
set_option maxHeartbeats 4000000 in
set_option maxRecDepth 100000 in
theorem rst_put (a b : Ex) (wa : W 12 a) (wb : W 12 b) (d : Nat) (hd : d ≤ 100) : RSt (.mk 3 none8 0 a b [] []) d := by
  intro hlen a1 c1 a2 c2 a3 c3 a4 c4 w hK
  have hb := below_box w (stO (.mk 3 none8 0 a b [] []) a1 c1 a2 c2 a3 c3 a4 c4)
  have HB := Lib.hid hb
  have HK := Lib.hid (hK.below hb)
  have HG := Lib.hid (StG.new w 3 none8 0 a b [] [] a1 c1 a2 c2 a3 c3 a4 c4)
  have HI := Lib.hid (fun w => rindent_any d (by omega) w)
  have zi := ind_size d
  have HII := Lib.hid (ba_list (ind d))
  have HA := Lib.hid (fun (d : Nat) (os : Array Obj) => Calls.regrown_of (d := d) (os := os) (rtext_any wa (by decide) a1 c1 _ (HK.out.a.below (below_regrown _ d os))))
  have HBx := Lib.hid (fun (d : Nat) (os : Array Obj) => Calls.regrown_of (d := d) (os := os) (rtext_any wb (by decide) a2 c2 _ (HK.out.b.below (below_regrown _ d os))))
  have za := tx_size wa (by decide)
  have HAA := Lib.hid (ba_list (tx a))
  have zb := tx_size wb (by decide)
  have HBB := Lib.hid (ba_list (tx b))
  have HV := Lib.hid (txS_3 a b d)
  rw [HV.out]
  generalize ba (ind d) = I at HI zi HII
  unfold exV at HA
  unfold exV at HBx
  generalize ba (tx a) = X at HA HAA za
  generalize ba (tx b) = Y at HBx HBB zb
  obtain ⟨g0, g1, g2, g3, g4, g5, g6, g7, g8, g9, g10, g11, g12⟩ := HG.out
  simp only [stC_mk, stO_mk, List.length_nil] at *
  clear hb hK HV hlen HG wa wb
  go_enter Tryz.func29, Tryz.ntmps29
  go_wp2_with fail
  refine (HI.out _).mono ?_; rintro e w1 ⟨rfl, rfl⟩
  go_wp2_with fail
  refine wp_region_quiet_below (by kernel_rfl) (by kernel_rfl) ?_
  try simp only [List.append_eq, List.cons_append, List.nil_append]
  repeat (go_big_quiet_step (with_reducible first | exact HA.out _ _ | exact HBx.out _ _))
  refine wpQuiet_nil ?_
  intro w4 hw'
  obtain ⟨⟨dq, osq⟩, hw2⟩ := hw'
  have hb4 := below_of hw2
  have HB4 := Lib.hid (below_2 HB.out hb4)
  clear hw2 hb4
  go_wp2_with fail
  go_ret
  exact ⟨ret_string (ba_eq (by simp only [append_list, HII.out, HAA.out, HBB.out]; simp [kPut, eos])), HB4.out⟩
set_option maxHeartbeats 4000000 in
set_option maxRecDepth 100000 in
theorem rst_del (a : Ex) (wa : W 12 a) (d : Nat) (hd : d ≤ 100) : RSt (.mk 4 none8 0 a noE [] []) d := by
  intro hlen a1 c1 a2 c2 a3 c3 a4 c4 w hK
  have hb := below_box w (stO (.mk 4 none8 0 a noE [] []) a1 c1 a2 c2 a3 c3 a4 c4)
  have HB := Lib.hid hb
  have HK := Lib.hid (hK.below hb)
  have HG := Lib.hid (StG.new w 4 none8 0 a noE [] [] a1 c1 a2 c2 a3 c3 a4 c4)
  have HI := Lib.hid (fun w => rindent_any d (by omega) w)
  have zi := ind_size d
  have HII := Lib.hid (ba_list (ind d))
  have HA := Lib.hid (fun w' (hb : Below (w.alloc (stO (.mk 4 none8 0 a noE [] []) a1 c1 a2 c2 a3 c3 a4 c4)).heap.size (w.alloc (stO (.mk 4 none8 0 a noE [] []) a1 c1 a2 c2 a3 c3 a4 c4)) w') => rtext_any wa (by decide) a1 c1 w' (HK.out.a.below hb))
  have za := tx_size wa (by decide)
  have HAA := Lib.hid (ba_list (tx a))
  have HV := Lib.hid (txS_4 a d)
  rw [HV.out]
  generalize ba (ind d) = I at HI zi HII
  unfold exV at HA
  generalize ba (tx a) = X at HA HAA za
  simp only [stC_mk, stO_mk, List.length_nil, noE_op, noE_n, noE_s, noE_args] at *
  clear hb hK HV hlen HG wa
  go_enter Tryz.func29, Tryz.ntmps29
  go_wp2_with fail
  refine (HI.out _).mono ?_; rintro e w1 ⟨rfl, rfl⟩
  go_wp2_with fail
  refine (HA.out _ (Below.refl _ _)).mono ?_; rintro e w2 ⟨rfl, hb2⟩
  have HB4 := Lib.hid (below_2 HB.out hb2)
  clear hb2
  go_wp2_with fail
  go_ret
  exact ⟨ret_string (ba_eq (by simp only [append_list, HII.out, HAA.out]; simp [kDel, eos])), HB4.out⟩
set_option maxHeartbeats 4000000 in
set_option maxRecDepth 100000 in
theorem rst_emit (a : Ex) (wa : W 12 a) (d : Nat) (hd : d ≤ 100) : RSt (.mk 7 none8 0 a noE [] []) d := by
  intro hlen a1 c1 a2 c2 a3 c3 a4 c4 w hK
  have hb := below_box w (stO (.mk 7 none8 0 a noE [] []) a1 c1 a2 c2 a3 c3 a4 c4)
  have HB := Lib.hid hb
  have HK := Lib.hid (hK.below hb)
  have HG := Lib.hid (StG.new w 7 none8 0 a noE [] [] a1 c1 a2 c2 a3 c3 a4 c4)
  have HI := Lib.hid (fun w => rindent_any d (by omega) w)
  have zi := ind_size d
  have HII := Lib.hid (ba_list (ind d))
  have HA := Lib.hid (fun w' (hb : Below (w.alloc (stO (.mk 7 none8 0 a noE [] []) a1 c1 a2 c2 a3 c3 a4 c4)).heap.size (w.alloc (stO (.mk 7 none8 0 a noE [] []) a1 c1 a2 c2 a3 c3 a4 c4)) w') => rtext_any wa (by decide) a1 c1 w' (HK.out.a.below hb))
  have za := tx_size wa (by decide)
  have HAA := Lib.hid (ba_list (tx a))
  have HV := Lib.hid (txS_7 a d)
  rw [HV.out]
  generalize ba (ind d) = I at HI zi HII
  unfold exV at HA
  generalize ba (tx a) = X at HA HAA za
  simp only [stC_mk, stO_mk, List.length_nil, noE_op, noE_n, noE_s, noE_args] at *
  clear hb hK HV hlen HG wa
  go_enter Tryz.func29, Tryz.ntmps29
  go_wp2_with fail
  refine (HI.out _).mono ?_; rintro e w1 ⟨rfl, rfl⟩
  go_wp2_with fail
  refine (HA.out _ (Below.refl _ _)).mono ?_; rintro e w2 ⟨rfl, hb2⟩
  have HB4 := Lib.hid (below_2 HB.out hb2)
  clear hb2
  go_wp2_with fail
  go_ret
  exact ⟨ret_string (ba_eq (by simp only [append_list, HII.out, HAA.out]; simp [kEmit, eos])), HB4.out⟩
set_option maxHeartbeats 4000000 in
set_option maxRecDepth 100000 in
theorem rst_abort (m : Int) (h0 : 0 ≤ m) (h1 : m ≤ 999) (d : Nat) (hd : d ≤ 100) : RSt (.mk 8 none8 m noE noE [] []) d := by
  intro hlen a1 c1 a2 c2 a3 c3 a4 c4 w hK
  have hb := below_box w (stO (.mk 8 none8 m noE noE [] []) a1 c1 a2 c2 a3 c3 a4 c4)
  have HB := Lib.hid hb
  have HK := Lib.hid (hK.below hb)
  have HG := Lib.hid (StG.new w 8 none8 m noE noE [] [] a1 c1 a2 c2 a3 c3 a4 c4)
  have HI := Lib.hid (fun w => rindent_any d (by omega) w)
  have zi := ind_size d
  have HII := Lib.hid (ba_list (ind d))
  have HF := Lib.hid (fun w => rfmt_any m (by omega) (by omega) w)
  have zf := itoa_size (n := m) (by omega) (by omega)
  have HFF := Lib.hid (ba_list (Go.Lib.itoa m))
  have HV := Lib.hid (txS_8 m d)
  rw [HV.out]
  generalize ba (ind d) = I at HI zi HII
  generalize ba (Go.Lib.itoa m) = Fm at HF HFF zf
  simp only [stC_mk, stO_mk, List.length_nil, noE_op, noE_n, noE_s, noE_args] at *
  clear hb hK HV hlen HG
  go_enter Tryz.func29, Tryz.ntmps29
  go_wp2_with fail
  refine (HI.out _).mono ?_; rintro e w1 ⟨rfl, rfl⟩
  go_wp2_with fail
  refine (HF.out _).mono ?_; rintro e w2 ⟨rfl, hb2⟩
  have HB4 := Lib.hid (below_2 HB.out hb2)
  clear hb2
  go_wp2_with fail
  go_ret
  exact ⟨ret_string (ba_eq (by simp only [append_list, HII.out, HFF.out]; simp [kAbort, eos])), HB4.out⟩
set_option maxHeartbeats 4000000 in
set_option maxRecDepth 100000 in
theorem rst_loop (nm : ByteArray) (m : Int) (a b : Ex) (bd : List St) (hn : nam nm = true) (h0 : 1 ≤ m) (h1 : m ≤ 16) (wa : W 12 a) (wb : W 12 b) (d : Nat) (hd : d ≤ 100) (HBD : RBk bd (d + 1)) : RSt (.mk 6 nm m a b bd []) d := by
  intro hlen a1 c1 a2 c2 a3 c3 a4 c4 w hK
  have hb := below_box w (stO (.mk 6 nm m a b bd []) a1 c1 a2 c2 a3 c3 a4 c4)
  have HB := Lib.hid hb
  have HK := Lib.hid (hK.below hb)
  have HG := Lib.hid (StG.new w 6 nm m a b bd [] a1 c1 a2 c2 a3 c3 a4 c4)
  have HI := Lib.hid (fun w => rindent_any d (by omega) w)
  have zi := ind_size d
  have HII := Lib.hid (ba_list (ind d))
  have HA := Lib.hid (fun (d : Nat) (os : Array Obj) => Calls.regrown_of (d := d) (os := os) (rtext_any wa (by decide) a1 c1 _ (HK.out.a.below (below_regrown _ d os))))
  have HBx := Lib.hid (fun (d : Nat) (os : Array Obj) => Calls.regrown_of (d := d) (os := os) (rtext_any wb (by decide) a2 c2 _ (HK.out.b.below (below_regrown _ d os))))
  have HF := Lib.hid (grownW (W := (w.alloc (stO (.mk 6 nm m a b bd []) a1 c1 a2 c2 a3 c3 a4 c4))) (fun w => rfmt_any m (by omega) (by omega) w))
  have za := tx_size wa (by decide)
  have HAA := Lib.hid (ba_list (tx a))
  have zb := tx_size wb (by decide)
  have HBB := Lib.hid (ba_list (tx b))
  have zf := itoa_size (n := m) (by omega) (by omega)
  have HFF := Lib.hid (ba_list (Go.Lib.itoa m))
  have zn := nam_size hn
  have HD := Lib.hid (fun (d' : Nat) (os : Array Obj) => Calls.regrown_of (d := d') (os := os) (HBD (by rw [txS_6] at hlen; simp only [List.length_append, List.length_cons] at hlen; omega) a3 c3 _ (HK.out.body.below (below_regrown _ d' os))))
  have zD : (ba (txB bd (d + 1))).size ≤ 1000000000 := by rw [ba_size]; rw [txS_6] at hlen; simp only [List.length_append, List.length_cons] at hlen; omega
  have HDD := Lib.hid (ba_list (txB bd (d + 1)))
  have HV := Lib.hid (txS_6 nm m a b bd d)
  rw [HV.out]
  generalize ba (ind d) = I at HI zi HII
  unfold exV at HA
  unfold exV at HBx
  generalize ba (tx a) = X at HA HAA za
  generalize ba (tx b) = Y at HBx HBB zb
  generalize ba (Go.Lib.itoa m) = Fm at HF HFF zf
  generalize ba (txB bd (d + 1)) = D at HD HDD zD
  obtain ⟨g0, g1, g2, g3, g4, g5, g6, g7, g8, g9, g10, g11, g12⟩ := HG.out
  simp only [stC_mk, stO_mk, List.length_nil, Int.natCast_add, Int.natCast_one] at *
  clear hb hK HV hlen HG wa wb hn
  go_enter Tryz.func29, Tryz.ntmps29
  go_wp2_with fail
  refine (HI.out _).mono ?_; rintro e w1 ⟨rfl, rfl⟩
  go_wp2_with fail
  refine wp_region_quiet_below (by kernel_rfl) (by kernel_rfl) ?_
  try simp only [List.append_eq, List.cons_append, List.nil_append]
  repeat (go_big_quiet_step (with_reducible first | exact HA.out _ _ | exact HBx.out _ _ | exact HF.out _ _ | exact HD.out _ _))
  refine wpQuiet_nil ?_
  intro w4 hw'
  obtain ⟨⟨dq, osq⟩, hw2⟩ := hw'
  have hb4 := below_of hw2
  have HB4 := Lib.hid (below_2 HB.out hb4)
  clear hw2 hb4
  go_wp2_with fail
  go_ret
  exact ⟨ret_string (ba_eq (by simp only [append_list, HII.out, HAA.out, HBB.out, HFF.out, HDD.out]; simp [kFor, kTo, kMax, opb, str])), HB4.out⟩
end Go.Proofs.YtbmdadhbkdkgmaaGreatDoor.P
