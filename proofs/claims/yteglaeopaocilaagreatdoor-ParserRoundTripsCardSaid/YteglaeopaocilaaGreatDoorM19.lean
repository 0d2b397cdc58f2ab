/-
  The program's writer of layer 9: the methods remove, emit, abort, let, set, put: contracts.
  The program's writer of layer 9: the methods when and loop, over block's contract.
  The program's writer of layer 9: the methods loop, block, stmt: contracts.
  The program's writer of layer 9: the method stmt, whatever the statement; stmt and block of whatever valid statements: contracts.
  The program's writer of layer 9: the method proc: a contract.
  Program and Proc of layer 9: contracts.
-/
import Derived.Test.YteglaeopaocilaaGreatDoorM18
import Derived.Test.YteglaeopaocilaaGreatDoorM16
import Derived.Deep.RegionHeld3
import Derived.Laws.EntriesVeiled
import Derived.Deep.AppendLies
import Derived.Lib.Join
import Derived.Test.YteglaeopaocilaaGreatDoorM15
namespace Go.Proofs.YteglaeopaocilaaGreatDoor.P
open Go.RowKit
open L (Str isName prt size_len below_2 below_box ret_bool ret_int ret_string bytes_eq append_list)
open A

theorem ost_ne : 9 ≠ 5 := by decide
theorem ostmt_ne : 76 ≠ 5 := by decide
theorem ornot {w : World} {k : Nat} {cs : Array Value} {t : TypeId} {f : Nat × Nat} (h : w.heap[k]? = some (.cells cs t f)) (ht : t ≠ 5) : ¬ Row8 w k := by
  intro ⟨cs2, f2, h2⟩
  rw [h] at h2
  simp only [Option.some.injEq, Obj.cells.injEq] at h2
  exact ht h2.2.1
/-- a row of strings just made -/
theorem ostrs_new {w : World} {N : Nat} (h : N < w.heap.size) (xs : List ByteArray) : Strs (w.alloc (.cells (xs.map Value.string).toArray 9)) N (some ⟨w.heap.size, 0, none⟩) xs := by
  have hk : (w.alloc (.cells (xs.map Value.string).toArray 9)).heap[w.heap.size]? = some (.cells (xs.map Value.string).toArray 9 (0, 0)) := heap_alloc_new w _
  refine Or.inr ⟨w.heap.size, 0, rfl, by omega, by simp, ornot hk ost_ne, fun j x hx => ?_⟩
  rw [Lib.cell_of_heap hk, Nat.zero_add]
  simp [hx]
theorem ostC_mk (o : Int) (nm : ByteArray) (mx : Int) (a b : Ex) (bd el : List St) (a1 : Option Addr) (c1 : Nat) (a2 : Option Addr) (c2 : Nat) (a3 : Option Addr) (c3 : Nat) (a4 : Option Addr) (c4 : Nat) : stC (.mk o nm mx a b bd el) a1 c1 a2 c2 a3 c3 a4 c4 = .agg #[.int .i64 o, .string nm, .int .i64 mx, .int .i64 a.op, .int .i64 a.n, .string a.s, .slice a1 a.args.length c1, .int .i64 b.op, .int .i64 b.n, .string b.s, .slice a2 b.args.length c2, .slice a3 bd.length c3, .slice a4 el.length c4] := rfl
theorem ostO_mk (o : Int) (nm : ByteArray) (mx : Int) (a b : Ex) (bd el : List St) (a1 : Option Addr) (c1 : Nat) (a2 : Option Addr) (c2 : Nat) (a3 : Option Addr) (c3 : Nat) (a4 : Option Addr) (c4 : Nat) : stO (.mk o nm mx a b bd el) a1 c1 a2 c2 a3 c3 a4 c4 = .cells #[.int .i64 o, .string nm, .int .i64 mx, .int .i64 a.op, .int .i64 a.n, .string a.s, .slice a1 a.args.length c1, .int .i64 b.op, .int .i64 b.n, .string b.s, .slice a2 b.args.length c2, .slice a3 bd.length c3, .slice a4 el.length c4] 76 := rfl
theorem onoE_op : noE.op = 0 := rfl
theorem onoE_n : noE.n = 0 := rfl
theorem onoE_s : noE.s = none8 := rfl
theorem onoE_args : noE.args = [] := rfl
theorem otxS_1 (nm : ByteArray) (a : Ex) (d : Nat) : txS (.mk 1 nm 0 a noE [] []) d = ind d ++ (kLet ++ 32 :: (str nm ++ 32 :: 61 :: 32 :: (tx a ++ eos))) := by rw [txS]; rfl
theorem otxS_2 (nm : ByteArray) (a : Ex) (d : Nat) : txS (.mk 2 nm 0 a noE [] []) d = ind d ++ (str nm ++ 32 :: 61 :: 32 :: (tx a ++ eos)) := by rw [txS]; rfl
theorem otxS_3 (a b : Ex) (d : Nat) : txS (.mk 3 none8 0 a b [] []) d = ind d ++ (kPut ++ 32 :: (tx a ++ 32 :: 61 :: 32 :: (tx b ++ eos))) := by rw [txS]; rfl
theorem otxS_4 (a : Ex) (d : Nat) : txS (.mk 4 none8 0 a noE [] []) d = ind d ++ (kDel ++ 32 :: (tx a ++ eos)) := by rw [txS]; rfl
theorem otxS_7 (a : Ex) (d : Nat) : txS (.mk 7 none8 0 a noE [] []) d = ind d ++ (kEmit ++ 32 :: (tx a ++ eos)) := by rw [txS]; rfl
theorem otxS_8 (m : Int) (d : Nat) : txS (.mk 8 none8 m noE noE [] []) d = ind d ++ (kAbort ++ 32 :: (Go.Lib.itoa m ++ eos)) := by rw [txS]; rfl
theorem otxS_6 (nm : ByteArray) (m : Int) (a b : Ex) (bd : List St) (d : Nat) : txS (.mk 6 nm m a b bd []) d = ind d ++ (kFor ++ 32 :: (str nm ++ 32 :: 61 :: 32 :: (tx a ++ 32 :: (kTo ++ 32 :: (tx b ++ 32 :: (kMax ++ 32 :: (Go.Lib.itoa m ++ (opb ++ (txB bd (d + 1) ++ (ind d ++ [125, 10])))))))))) := by rw [txS]; rfl
theorem otxS_5 (a : Ex) (bd el : List St) (d : Nat) : txS (.mk 5 none8 0 a noE bd el) d = ind d ++ (kIf ++ 32 :: (tx a ++ (opb ++ (txB bd (d + 1) ++ (ind d ++ 125 :: ((if el.isEmpty then [] else 32 :: (kElse ++ (opb ++ (txB el (d + 1) ++ (ind d ++ [125]))))) ++ [10])))))) := by rw [txS]; rfl
/-- what a method of the writer does with a statement -/
def OMt (F : FuncId) (s : St) (d : Nat) : Prop := ∀ (a1 : Option Addr) (c1 : Nat) (a2 : Option Addr) (c2 : Nat) (a3 : Option Addr) (c3 : Nat) (a4 : Option Addr) (c4 : Nat) (w0 : World) (N : Nat) (l : Str) (w : World), Tab w0 → Below w0.heap.size w0 w → Wr w w0.heap.size N l d → l.length + (txS s d).length ≤ 1000000000000 → StKids w0 s a1 a2 a3 a4 →
  Calls Tryz.prog F #[.pointer (some ⟨N, 0, none⟩), stC s a1 c1 a2 c2 a3 c3 a4 c4] w fun e w' => e = .returned (.tuple #[]) ∧ Wr w' w0.heap.size N (l ++ txS s d) d ∧ Fr w0.heap.size N w w'
/-- a line, whatever its text is called -/
theorem oline_to {B N : Nat} {l : Str} {d : Nat} {w : World} (xs : List ByteArray) (t : Str) (c : Nat) (hd : d ≤ 1000) (hx : xs.length ≤ 1000) (hB : B ≤ w.heap.size) (hW : Wr w B N l d) (ht : ind d ++ (joinS xs ++ [10]) = t) (hl : l.length + t.length ≤ 1000000000000) :
    Calls Tryz.prog 61 #[.pointer (some ⟨N, 0, none⟩), .slice (some ⟨w.heap.size, 0, none⟩) xs.length c] (w.alloc (.cells (xs.map Value.string).toArray 9)) fun e w' => e = .returned (.tuple #[]) ∧ Wr w' B N (l ++ t) d ∧ Fr B N w w' := by
  have hb := below_box w (.cells (xs.map Value.string).toArray 9)
  have hlj : l.length + (joinS xs).length ≤ 10000000000000 := by rw [← ht] at hl; simp only [List.length_append] at hl; omega
  refine (oline_any B N l d _ c xs hd hx hlj _ (Nat.le_trans hB hb.size) (hW.later hb) (ostrs_new hW.lt xs)).mono ?_
  rintro e w' ⟨h1, h2, h3⟩
  exact ⟨h1, by rw [← ht]; exact h2, (Fr.of hb).trans h3⟩
/-- the box of a statement at block K -/
def BoxS (w : World) (K : Nat) (s : St) (a1 : Option Addr) (c1 : Nat) (a2 : Option Addr) (c2 : Nat) (a3 : Option Addr) (c3 : Nat) (a4 : Option Addr) (c4 : Nat) : Prop := w.heap[K]? = some (stO s a1 c1 a2 c2 a3 c3 a4 c4)
section
variable {w w' : World} {K : Nat} {s : St} {a1 : Option Addr} {c1 : Nat} {a2 : Option Addr} {c2 : Nat} {a3 : Option Addr} {c3 : Nat} {a4 : Option Addr} {c4 : Nat}
theorem BoxS.new (w : World) (s : St) (a1 : Option Addr) (c1 : Nat) (a2 : Option Addr) (c2 : Nat) (a3 : Option Addr) (c3 : Nat) (a4 : Option Addr) (c4 : Nat) : BoxS (w.alloc (stO s a1 c1 a2 c2 a3 c3 a4 c4)) w.heap.size s a1 c1 a2 c2 a3 c3 a4 c4 := heap_alloc_new w _
theorem BoxS.lt (h : BoxS w K s a1 c1 a2 c2 a3 c3 a4 c4) : K < w.heap.size := (Array.getElem?_eq_some_iff.1 h).1
theorem BoxS.below (h : BoxS w K s a1 c1 a2 c2 a3 c3 a4 c4) (hb : Below w.heap.size w w') : BoxS w' K s a1 c1 a2 c2 a3 c3 a4 c4 := (hb.block K h.lt).trans h
theorem BoxS.fr {B N : Nat} (h : BoxS w K s a1 c1 a2 c2 a3 c3 a4 c4) (hf : Fr B N w w') (hK : K ≠ N) : BoxS w' K s a1 c1 a2 c2 a3 c3 a4 c4 := (hf.block K h.lt hK (Or.inr (ornot (show w.heap[K]? = some (.cells _ 76 (0, 0)) from h) ostmt_ne))).trans h
theorem BoxS.cells (h : BoxS w K s a1 c1 a2 c2 a3 c3 a4 c4) : StCells w s K 0 a1 c1 a2 c2 a3 c3 a4 c4 := by
  have hk : w.heap[K]? = some (.cells _ 76 (0, 0)) := h
  exact ⟨by rw [Lib.cell_of_heap hk]; rfl, by rw [Lib.cell_of_heap hk]; rfl, by rw [Lib.cell_of_heap hk]; rfl, by rw [Lib.cell_of_heap hk]; rfl, by rw [Lib.cell_of_heap hk]; rfl, by rw [Lib.cell_of_heap hk]; rfl, by rw [Lib.cell_of_heap hk]; rfl, by rw [Lib.cell_of_heap hk]; rfl, by rw [Lib.cell_of_heap hk]; rfl, by rw [Lib.cell_of_heap hk]; rfl, by rw [Lib.cell_of_heap hk]; rfl, by rw [Lib.cell_of_heap hk]; rfl, by rw [Lib.cell_of_heap hk]; rfl⟩
end
theorem ofmt_any (n : Int) (h0 : 0 ≤ n) (h1 : n ≤ 9223372036854775807) (w : World) (ht : Tab w) : Calls Tryz.prog 126 #[.int .i64 n] w fun e w' => e = .returned (.string (ba (Go.Lib.itoa n))) ∧ Below w.heap.size w w' := format_any n (by omega) h1 w ht.pow
set_option maxHeartbeats 2000000 in
set_option maxRecDepth 100000 in
theorem oemit_any (a : Ex) (wa : W 12 a) (d : Nat) (hd : d ≤ 100) : OMt 204 (.mk 7 none8 0 a noE [] []) d := by
  intro a1 c1 a2 c2 a3 c3 a4 c4 w0 N l w ht hb0 hW hl hK
  have hbx := below_box w (stO (.mk 7 none8 0 a noE [] []) a1 c1 a2 c2 a3 c3 a4 c4)
  have hb1 := hb0.trans (hbx.mono hb0.size)
  have hz := hb1.size
  have HA := Lib.hid (oexprText_any wa (by decide) a1 c1 _ (ht.below hb1) (hK.a.below hb1))
  have HW := Lib.hid (fun w2 (hb : Below _ _ w2) => (hW.later hbx).later hb)
  have HZ := Lib.hid (fun w2 (hb : Below (w.alloc (stO (.mk 7 none8 0 a noE [] []) a1 c1 a2 c2 a3 c3 a4 c4)).heap.size (w.alloc (stO (.mk 7 none8 0 a noE [] []) a1 c1 a2 c2 a3 c3 a4 c4)) w2) => Nat.le_trans hz hb.size)
  have HF := Lib.hid (fun w2 (hb : Below _ _ w2) => (Fr.of (B := w0.heap.size) (N := N) hbx).trans (Fr.of hb))
  have HX := Lib.hid (oba_list (tx a))
  rw [otxS_7] at hl ⊢
  have HT : Hid (ind d ++ (joinS [⟨#[101, 109, 105, 116, 32]⟩, ba (tx a), ⟨#[59]⟩] ++ [10]) = ind d ++ (kEmit ++ 32 :: (tx a ++ eos))) := by
    show _ = _
    unfold joinS
    simp [HX.out, kEmit, eos]
  have HL := Lib.hid hl
  generalize ind d ++ (kEmit ++ 32 :: (tx a ++ eos)) = t at HT HL ⊢
  generalize ba (tx a) = T at HA HX HT
  unfold exV at HA
  simp only [ostC_mk, ostO_mk, List.length_nil, onoE_op, onoE_n, onoE_s, onoE_args] at *
  clear hbx hb1 ht hK hl hz hW hb0 wa
  go_enter Tryz.func204, Tryz.ntmps204
  go_wp2_with fail
  refine HA.out.mono ?_; rintro e w2 ⟨rfl, hb2⟩
  have HC := Lib.hid (oline_to [⟨#[101, 109, 105, 116, 32]⟩, T, ⟨#[59]⟩] t 3 (by omega) (by simp) (HZ.out w2 hb2) (HW.out w2 hb2) HT.out HL.out)
  have HF2 := Lib.hid (HF.out w2 hb2)
  clear hb2
  go_wp2_with fail
  refine HC.out.mono ?_; rintro e w3 ⟨rfl, hW3, hF3⟩
  have HW3 := Lib.hid hW3
  have HF3 := Lib.hid (HF2.out.trans hF3)
  clear hW3 hF3
  go_wp2_with fail
  go_end0
  exact ⟨rfl, HW3.out, HF3.out⟩
set_option maxHeartbeats 2000000 in
set_option maxRecDepth 100000 in
theorem oremove_any (a : Ex) (wa : W 12 a) (d : Nat) (hd : d ≤ 100) : OMt 201 (.mk 4 none8 0 a noE [] []) d := by
  intro a1 c1 a2 c2 a3 c3 a4 c4 w0 N l w ht hb0 hW hl hK
  have hbx := below_box w (stO (.mk 4 none8 0 a noE [] []) a1 c1 a2 c2 a3 c3 a4 c4)
  have hb1 := hb0.trans (hbx.mono hb0.size)
  have hz := hb1.size
  have HA := Lib.hid (oexprText_any wa (by decide) a1 c1 _ (ht.below hb1) (hK.a.below hb1))
  have HW := Lib.hid (fun w2 (hb : Below _ _ w2) => (hW.later hbx).later hb)
  have HZ := Lib.hid (fun w2 (hb : Below (w.alloc (stO (.mk 4 none8 0 a noE [] []) a1 c1 a2 c2 a3 c3 a4 c4)).heap.size (w.alloc (stO (.mk 4 none8 0 a noE [] []) a1 c1 a2 c2 a3 c3 a4 c4)) w2) => Nat.le_trans hz hb.size)
  have HF := Lib.hid (fun w2 (hb : Below _ _ w2) => (Fr.of (B := w0.heap.size) (N := N) hbx).trans (Fr.of hb))
  have HX := Lib.hid (oba_list (tx a))
  rw [otxS_4] at hl ⊢
  have HT : Hid (ind d ++ (joinS [⟨#[100, 101, 108, 101, 116, 101, 32]⟩, ba (tx a), ⟨#[59]⟩] ++ [10]) = ind d ++ (kDel ++ 32 :: (tx a ++ eos))) := by
    show _ = _
    unfold joinS
    simp [HX.out, kDel, eos]
  have HL := Lib.hid hl
  generalize ind d ++ (kDel ++ 32 :: (tx a ++ eos)) = t at HT HL ⊢
  generalize ba (tx a) = T at HA HX HT
  unfold exV at HA
  simp only [ostC_mk, ostO_mk, List.length_nil, onoE_op, onoE_n, onoE_s, onoE_args] at *
  clear hbx hb1 ht hK hl hz hW hb0 wa
  go_enter Tryz.func201, Tryz.ntmps201
  go_wp2_with fail
  refine HA.out.mono ?_; rintro e w2 ⟨rfl, hb2⟩
  have HC := Lib.hid (oline_to [⟨#[100, 101, 108, 101, 116, 101, 32]⟩, T, ⟨#[59]⟩] t 3 (by omega) (by simp) (HZ.out w2 hb2) (HW.out w2 hb2) HT.out HL.out)
  have HF2 := Lib.hid (HF.out w2 hb2)
  clear hb2
  go_wp2_with fail
  refine HC.out.mono ?_; rintro e w3 ⟨rfl, hW3, hF3⟩
  have HW3 := Lib.hid hW3
  have HF3 := Lib.hid (HF2.out.trans hF3)
  clear hW3 hF3
  go_wp2_with fail
  go_end0
  exact ⟨rfl, HW3.out, HF3.out⟩
set_option maxHeartbeats 2000000 in
set_option maxRecDepth 100000 in
theorem oabort_any (m : Int) (h0 : 0 ≤ m) (h1 : m ≤ 999) (d : Nat) (hd : d ≤ 100) : OMt 205 (.mk 8 none8 m noE noE [] []) d := by
  intro a1 c1 a2 c2 a3 c3 a4 c4 w0 N l w ht hb0 hW hl hK
  have hbx := below_box w (stO (.mk 8 none8 m noE noE [] []) a1 c1 a2 c2 a3 c3 a4 c4)
  have hb1 := hb0.trans (hbx.mono hb0.size)
  have hz := hb1.size
  have HA := Lib.hid (ofmt_any m (by omega) (by omega) _ (ht.below hb1))
  have HW := Lib.hid (fun w2 (hb : Below _ _ w2) => (hW.later hbx).later hb)
  have HZ := Lib.hid (fun w2 (hb : Below (w.alloc (stO (.mk 8 none8 m noE noE [] []) a1 c1 a2 c2 a3 c3 a4 c4)).heap.size (w.alloc (stO (.mk 8 none8 m noE noE [] []) a1 c1 a2 c2 a3 c3 a4 c4)) w2) => Nat.le_trans hz hb.size)
  have HF := Lib.hid (fun w2 (hb : Below _ _ w2) => (Fr.of (B := w0.heap.size) (N := N) hbx).trans (Fr.of hb))
  have HX := Lib.hid (oba_list (Go.Lib.itoa m))
  rw [otxS_8] at hl ⊢
  have HT : Hid (ind d ++ (joinS [⟨#[97, 98, 111, 114, 116, 32]⟩, ba (Go.Lib.itoa m), ⟨#[59]⟩] ++ [10]) = ind d ++ (kAbort ++ 32 :: (Go.Lib.itoa m ++ eos))) := by
    show _ = _
    unfold joinS
    simp [HX.out, kAbort, eos]
  have HL := Lib.hid hl
  generalize ind d ++ (kAbort ++ 32 :: (Go.Lib.itoa m ++ eos)) = t at HT HL ⊢
  generalize ba (Go.Lib.itoa m) = T at HA HX HT
  simp only [ostC_mk, ostO_mk, List.length_nil, onoE_op, onoE_n, onoE_s, onoE_args] at *
  clear hbx hb1 ht hK hl hz hW hb0
  go_enter Tryz.func205, Tryz.ntmps205
  go_wp2_with fail
  refine HA.out.mono ?_; rintro e w2 ⟨rfl, hb2⟩
  have HC := Lib.hid (oline_to [⟨#[97, 98, 111, 114, 116, 32]⟩, T, ⟨#[59]⟩] t 3 (by omega) (by simp) (HZ.out w2 hb2) (HW.out w2 hb2) HT.out HL.out)
  have HF2 := Lib.hid (HF.out w2 hb2)
  clear hb2
  go_wp2_with fail
  refine HC.out.mono ?_; rintro e w3 ⟨rfl, hW3, hF3⟩
  have HW3 := Lib.hid hW3
  have HF3 := Lib.hid (HF2.out.trans hF3)
  clear hW3 hF3
  go_wp2_with fail
  go_end0
  exact ⟨rfl, HW3.out, HF3.out⟩
set_option maxHeartbeats 2000000 in
set_option maxRecDepth 100000 in
theorem olet_any (nm : ByteArray) (a : Ex) (_hn : nam nm = true) (wa : W 12 a) (d : Nat) (hd : d ≤ 100) : OMt 198 (.mk 1 nm 0 a noE [] []) d := by
  intro a1 c1 a2 c2 a3 c3 a4 c4 w0 N l w ht hb0 hW hl hK
  have hbx := below_2 (below_box w (stO (.mk 1 nm 0 a noE [] []) a1 c1 a2 c2 a3 c3 a4 c4)) (L.below_drew _)
  have hb1 := hb0.trans (hbx.mono hb0.size)
  have hz := hb1.size
  have hne : w.heap.size ≠ N := by have := hW.lt; omega
  have HBx := Lib.hid ((BoxS.new w (.mk 1 nm 0 a noE [] []) a1 c1 a2 c2 a3 c3 a4 c4).below (L.below_drew _))
  have HNe := Lib.hid hne
  have HA := Lib.hid (oexprText_any wa (by decide) a1 c1 _ (ht.below hb1) (hK.a.below hb1))
  have HW := Lib.hid (fun w2 (hb : Below _ _ w2) => (hW.later hbx).later hb)
  have HZ := Lib.hid (fun w2 (hb : Below (w.alloc (stO (.mk 1 nm 0 a noE [] []) a1 c1 a2 c2 a3 c3 a4 c4)).drew.heap.size (w.alloc (stO (.mk 1 nm 0 a noE [] []) a1 c1 a2 c2 a3 c3 a4 c4)).drew w2) => Nat.le_trans hz hb.size)
  have HF := Lib.hid (fun w2 (hb : Below _ _ w2) => (Fr.of (B := w0.heap.size) (N := N) hbx).trans (Fr.of hb))
  have HX := Lib.hid (oba_list (tx a))
  rw [otxS_1] at hl ⊢
  have HT : Hid (ind d ++ (joinS [⟨#[108, 101, 116, 32]⟩, nm, ⟨#[32, 61, 32]⟩, ba (tx a), ⟨#[59]⟩] ++ [10]) = ind d ++ (kLet ++ 32 :: (str nm ++ 32 :: 61 :: 32 :: (tx a ++ eos)))) := by
    show _ = _
    unfold joinS
    simp [HX.out, kLet, eos, str]
  have HL := Lib.hid hl
  generalize ind d ++ (kLet ++ 32 :: (str nm ++ 32 :: 61 :: 32 :: (tx a ++ eos))) = t at HT HL ⊢
  generalize ba (tx a) = T at HA HX HT
  unfold exV at HA
  simp only [ostC_mk, ostO_mk, List.length_nil, onoE_op, onoE_n, onoE_s, onoE_args] at *
  clear hbx hb1 ht hK hl hz hW hb0 wa hne _hn
  go_enter Tryz.func198, Tryz.ntmps198
  go_wp2_with fail
  go_region_held3 (fun w' => w'.cell? ⟨w.heap.size, 1, none⟩ = some (.string nm) ∧ w'.cell? ⟨w.heap.size, 3, none⟩ = some (.int .i64 a.op) ∧ w'.cell? ⟨w.heap.size, 4, none⟩ = some (.int .i64 a.n) ∧ w'.cell? ⟨w.heap.size, 5, none⟩ = some (.string a.s) ∧ w'.cell? ⟨w.heap.size, 6, none⟩ = some (.slice a1 a.args.length c1)) (first | exact ⟨i1, i3, i4, i5, i6⟩ | exact ⟨j1, j3, j4, j5, j6⟩ | exact ⟨(HAl.out _).k1, (HAl.out _).k3, (HAl.out _).k4, (HAl.out _).k5, (HAl.out _).k6⟩ | go_keep | (refine ⟨?_, ?_, ?_, ?_, ?_⟩ <;> go_simp))
    (first
      | (go_at_call 60; (with_reducible refine HA.out.mono ?_); rintro e w2 ⟨rfl, hb2⟩; have HB2 := Lib.hid hb2; have HBz := Lib.hid (HBx.out.below hb2); have HAl := Lib.hid (fun o => (HBz.out.below (below_box w2 o)).cells); have i1 := HBz.out.cells.k1; have i3 := HBz.out.cells.k3; have i4 := HBz.out.cells.k4; have i5 := HBz.out.cells.k5; have i6 := HBz.out.cells.k6; simp only [Nat.zero_add] at i1 i3 i4 i5 i6; have HC := Lib.hid (oline_to [⟨#[108, 101, 116, 32]⟩, nm, ⟨#[32, 61, 32]⟩, T, ⟨#[59]⟩] t 5 (by omega) (by simp) (HZ.out w2 HB2.out) (HW.out w2 HB2.out) HT.out HL.out); clear hb2)
      | (go_at_call 61; refine HC.out.mono ?_; rintro e w3 ⟨rfl, hW3, hF3⟩; have HW3 := Lib.hid hW3; have HF3 := Lib.hid ((HF.out w2 HB2.out).trans hF3); have HBj := Lib.hid (HBz.out.fr hF3 HNe.out); have j1 := HBj.out.cells.k1; have j3 := HBj.out.cells.k3; have j4 := HBj.out.cells.k4; have j5 := HBj.out.cells.k5; have j6 := HBj.out.cells.k6; simp only [Nat.zero_add] at j1 j3 j4 j5 j6; clear hW3 hF3))
  go_wp2_with fail
  go_end0
  exact ⟨rfl, HW3.out, HF3.out⟩
set_option maxHeartbeats 2000000 in
set_option maxRecDepth 100000 in
theorem oset_any (nm : ByteArray) (a : Ex) (_hn : nam nm = true) (wa : W 12 a) (d : Nat) (hd : d ≤ 100) : OMt 199 (.mk 2 nm 0 a noE [] []) d := by
  intro a1 c1 a2 c2 a3 c3 a4 c4 w0 N l w ht hb0 hW hl hK
  have hbx := below_2 (below_box w (stO (.mk 2 nm 0 a noE [] []) a1 c1 a2 c2 a3 c3 a4 c4)) (L.below_drew _)
  have hb1 := hb0.trans (hbx.mono hb0.size)
  have hz := hb1.size
  have hne : w.heap.size ≠ N := by have := hW.lt; omega
  have HBx := Lib.hid ((BoxS.new w (.mk 2 nm 0 a noE [] []) a1 c1 a2 c2 a3 c3 a4 c4).below (L.below_drew _))
  have HNe := Lib.hid hne
  have HA := Lib.hid (oexprText_any wa (by decide) a1 c1 _ (ht.below hb1) (hK.a.below hb1))
  have HW := Lib.hid (fun w2 (hb : Below _ _ w2) => (hW.later hbx).later hb)
  have HZ := Lib.hid (fun w2 (hb : Below (w.alloc (stO (.mk 2 nm 0 a noE [] []) a1 c1 a2 c2 a3 c3 a4 c4)).drew.heap.size (w.alloc (stO (.mk 2 nm 0 a noE [] []) a1 c1 a2 c2 a3 c3 a4 c4)).drew w2) => Nat.le_trans hz hb.size)
  have HF := Lib.hid (fun w2 (hb : Below _ _ w2) => (Fr.of (B := w0.heap.size) (N := N) hbx).trans (Fr.of hb))
  have HX := Lib.hid (oba_list (tx a))
  rw [otxS_2] at hl ⊢
  have HT : Hid (ind d ++ (joinS [nm, ⟨#[32, 61, 32]⟩, ba (tx a), ⟨#[59]⟩] ++ [10]) = ind d ++ (str nm ++ 32 :: 61 :: 32 :: (tx a ++ eos))) := by
    show _ = _
    unfold joinS
    simp [HX.out, eos, str]
  have HL := Lib.hid hl
  generalize ind d ++ (str nm ++ 32 :: 61 :: 32 :: (tx a ++ eos)) = t at HT HL ⊢
  generalize ba (tx a) = T at HA HX HT
  unfold exV at HA
  simp only [ostC_mk, ostO_mk, List.length_nil, onoE_op, onoE_n, onoE_s, onoE_args] at *
  clear hbx hb1 ht hK hl hz hW hb0 wa hne _hn
  go_enter Tryz.func199, Tryz.ntmps199
  go_wp2_with fail
  go_region_held3 (fun w' => w'.cell? ⟨w.heap.size, 1, none⟩ = some (.string nm) ∧ w'.cell? ⟨w.heap.size, 3, none⟩ = some (.int .i64 a.op) ∧ w'.cell? ⟨w.heap.size, 4, none⟩ = some (.int .i64 a.n) ∧ w'.cell? ⟨w.heap.size, 5, none⟩ = some (.string a.s) ∧ w'.cell? ⟨w.heap.size, 6, none⟩ = some (.slice a1 a.args.length c1)) (first | exact ⟨i1, i3, i4, i5, i6⟩ | exact ⟨j1, j3, j4, j5, j6⟩ | exact ⟨(HAl.out _).k1, (HAl.out _).k3, (HAl.out _).k4, (HAl.out _).k5, (HAl.out _).k6⟩ | go_keep | (refine ⟨?_, ?_, ?_, ?_, ?_⟩ <;> go_simp))
    (first
      | (go_at_call 60; (with_reducible refine HA.out.mono ?_); rintro e w2 ⟨rfl, hb2⟩; have HB2 := Lib.hid hb2; have HBz := Lib.hid (HBx.out.below hb2); have HAl := Lib.hid (fun o => (HBz.out.below (below_box w2 o)).cells); have i1 := HBz.out.cells.k1; have i3 := HBz.out.cells.k3; have i4 := HBz.out.cells.k4; have i5 := HBz.out.cells.k5; have i6 := HBz.out.cells.k6; simp only [Nat.zero_add] at i1 i3 i4 i5 i6; have HC := Lib.hid (oline_to [nm, ⟨#[32, 61, 32]⟩, T, ⟨#[59]⟩] t 4 (by omega) (by simp) (HZ.out w2 HB2.out) (HW.out w2 HB2.out) HT.out HL.out); clear hb2)
      | (go_at_call 61; refine HC.out.mono ?_; rintro e w3 ⟨rfl, hW3, hF3⟩; have HW3 := Lib.hid hW3; have HF3 := Lib.hid ((HF.out w2 HB2.out).trans hF3); have HBj := Lib.hid (HBz.out.fr hF3 HNe.out); have j1 := HBj.out.cells.k1; have j3 := HBj.out.cells.k3; have j4 := HBj.out.cells.k4; have j5 := HBj.out.cells.k5; have j6 := HBj.out.cells.k6; simp only [Nat.zero_add] at j1 j3 j4 j5 j6; clear hW3 hF3))
  go_wp2_with fail
  go_end0
  exact ⟨rfl, HW3.out, HF3.out⟩
set_option maxHeartbeats 2000000 in
set_option maxRecDepth 100000 in
theorem oput_any (a b : Ex) (wa : W 12 a) (wb : W 12 b) (d : Nat) (hd : d ≤ 100) : OMt 200 (.mk 3 none8 0 a b [] []) d := by
  intro a1 c1 a2 c2 a3 c3 a4 c4 w0 N l w ht hb0 hW hl hK
  have hbx := below_2 (below_box w (stO (.mk 3 none8 0 a b [] []) a1 c1 a2 c2 a3 c3 a4 c4)) (L.below_drew _)
  have hb1 := hb0.trans (hbx.mono hb0.size)
  have hz := hb1.size
  have hne : w.heap.size ≠ N := by have := hW.lt; omega
  have HBx := Lib.hid ((BoxS.new w (.mk 3 none8 0 a b [] []) a1 c1 a2 c2 a3 c3 a4 c4).below (L.below_drew _))
  have HNe := Lib.hid hne
  have HA := Lib.hid (oexprText_any wa (by decide) a1 c1 _ (ht.below hb1) (hK.a.below hb1))
  have HY := Lib.hid (fun w2 (hb : Below (w.alloc (stO (.mk 3 none8 0 a b [] []) a1 c1 a2 c2 a3 c3 a4 c4)).drew.heap.size (w.alloc (stO (.mk 3 none8 0 a b [] []) a1 c1 a2 c2 a3 c3 a4 c4)).drew w2) => oexprText_any wb (by decide) a2 c2 w2 ((ht.below hb1).below hb) ((hK.b.below hb1).below hb))
  have HW := Lib.hid (fun w2 (hb : Below _ _ w2) => (hW.later hbx).later hb)
  have HZ := Lib.hid (fun w2 (hb : Below (w.alloc (stO (.mk 3 none8 0 a b [] []) a1 c1 a2 c2 a3 c3 a4 c4)).drew.heap.size (w.alloc (stO (.mk 3 none8 0 a b [] []) a1 c1 a2 c2 a3 c3 a4 c4)).drew w2) => Nat.le_trans hz hb.size)
  have HF := Lib.hid (fun w2 (hb : Below _ _ w2) => (Fr.of (B := w0.heap.size) (N := N) hbx).trans (Fr.of hb))
  have HX := Lib.hid (oba_list (tx a))
  have HXb := Lib.hid (oba_list (tx b))
  rw [otxS_3] at hl ⊢
  have HT : Hid (ind d ++ (joinS [⟨#[112, 117, 116, 32]⟩, ba (tx a), ⟨#[32, 61, 32]⟩, ba (tx b), ⟨#[59]⟩] ++ [10]) = ind d ++ (kPut ++ 32 :: (tx a ++ 32 :: 61 :: 32 :: (tx b ++ eos)))) := by
    show _ = _
    unfold joinS
    simp [HX.out, HXb.out, kPut, eos]
  have HL := Lib.hid hl
  generalize ind d ++ (kPut ++ 32 :: (tx a ++ 32 :: 61 :: 32 :: (tx b ++ eos))) = t at HT HL ⊢
  generalize ba (tx a) = T at HA HX HT
  generalize ba (tx b) = U at HY HXb HT
  unfold exV at HY
  unfold exV at HA
  simp only [ostC_mk, ostO_mk, List.length_nil] at *
  clear hbx hb1 ht hK hl hz hW hb0 wa hne wb
  go_enter Tryz.func200, Tryz.ntmps200
  go_wp2_with fail
  go_region_held3 (fun w' => w'.cell? ⟨w.heap.size, 3, none⟩ = some (.int .i64 a.op) ∧ w'.cell? ⟨w.heap.size, 4, none⟩ = some (.int .i64 a.n) ∧ w'.cell? ⟨w.heap.size, 5, none⟩ = some (.string a.s) ∧ w'.cell? ⟨w.heap.size, 6, none⟩ = some (.slice a1 a.args.length c1) ∧ w'.cell? ⟨w.heap.size, 7, none⟩ = some (.int .i64 b.op) ∧ w'.cell? ⟨w.heap.size, 8, none⟩ = some (.int .i64 b.n) ∧ w'.cell? ⟨w.heap.size, 9, none⟩ = some (.string b.s) ∧ w'.cell? ⟨w.heap.size, 10, none⟩ = some (.slice a2 b.args.length c2)) (first | exact ⟨h3, h4, h5, h6, h7, h8, h9, h10⟩ | exact ⟨i3, i4, i5, i6, i7, i8, i9, i10⟩ | exact ⟨j3, j4, j5, j6, j7, j8, j9, j10⟩ | exact ⟨(HAl.out _).k3, (HAl.out _).k4, (HAl.out _).k5, (HAl.out _).k6, (HAl.out _).k7, (HAl.out _).k8, (HAl.out _).k9, (HAl.out _).k10⟩ | go_keep | (refine ⟨?_, ?_, ?_, ?_, ?_, ?_, ?_, ?_⟩ <;> go_simp))
    (first
      | (go_at_call 60; (with_reducible refine HA.out.mono ?_); rintro e w1 ⟨rfl, hb1⟩; have HB1 := Lib.hid hb1; have HBy := Lib.hid (HBx.out.below hb1); have h3 := HBy.out.cells.k3; have h4 := HBy.out.cells.k4; have h5 := HBy.out.cells.k5; have h6 := HBy.out.cells.k6; have h7 := HBy.out.cells.k7; have h8 := HBy.out.cells.k8; have h9 := HBy.out.cells.k9; have h10 := HBy.out.cells.k10; simp only [Nat.zero_add] at h3 h4 h5 h6 h7 h8 h9 h10; clear hb1)
      | (go_at_call 60; (with_reducible refine (HY.out _ HB1.out).mono ?_); rintro e w2 ⟨rfl, hb2⟩; have HB2 := Lib.hid (below_2 HB1.out hb2); have HBz := Lib.hid (HBy.out.below hb2); have HAl := Lib.hid (fun o => (HBz.out.below (below_box w2 o)).cells); have i3 := HBz.out.cells.k3; have i4 := HBz.out.cells.k4; have i5 := HBz.out.cells.k5; have i6 := HBz.out.cells.k6; have i7 := HBz.out.cells.k7; have i8 := HBz.out.cells.k8; have i9 := HBz.out.cells.k9; have i10 := HBz.out.cells.k10; simp only [Nat.zero_add] at i3 i4 i5 i6 i7 i8 i9 i10; have HC := Lib.hid (oline_to [⟨#[112, 117, 116, 32]⟩, T, ⟨#[32, 61, 32]⟩, U, ⟨#[59]⟩] t 5 (by omega) (by simp) (HZ.out w2 HB2.out) (HW.out w2 HB2.out) HT.out HL.out); clear hb2)
      | (go_at_call 61; refine HC.out.mono ?_; rintro e w3 ⟨rfl, hW3, hF3⟩; have HW3 := Lib.hid hW3; have HF3 := Lib.hid ((HF.out w2 HB2.out).trans hF3); have HBj := Lib.hid (HBz.out.fr hF3 HNe.out); have j3 := HBj.out.cells.k3; have j4 := HBj.out.cells.k4; have j5 := HBj.out.cells.k5; have j6 := HBj.out.cells.k6; have j7 := HBj.out.cells.k7; have j8 := HBj.out.cells.k8; have j9 := HBj.out.cells.k9; have j10 := HBj.out.cells.k10; simp only [Nat.zero_add] at j3 j4 j5 j6 j7 j8 j9 j10; clear hW3 hF3))
  go_wp2_with fail
  go_end0
  exact ⟨rfl, HW3.out, HF3.out⟩
end Go.Proofs.YteglaeopaocilaaGreatDoor.P
namespace Go.Proofs.YteglaeopaocilaaGreatDoor.P
open Go.RowKit
open L (Str isName prt size_len below_2 below_box ret_bool ret_int ret_string bytes_eq append_list)
open A

/-- what the method block does with statements -/
def OBk (l : List St) (d : Nat) : Prop := ∀ (a : Option Addr) (c : Nat) (w0 : World) (N : Nat) (t : Str) (w : World), Tab w0 → Below w0.heap.size w0 w → Wr w w0.heap.size N t d → t.length + (txB l (d + 1)).length ≤ 1000000000000 → A.Bodies w0 a l →
  Calls Tryz.prog 115 #[.pointer (some ⟨N, 0, none⟩), .slice a l.length c] w fun e w' => e = .returned (.tuple #[]) ∧ Wr w' w0.heap.size N (t ++ txB l (d + 1)) d ∧ Fr w0.heap.size N w w'
theorem Fr.world {B N : Nat} {w0 w w' : World} (hb : Below w0.heap.size w0 w) (hf : Fr w0.heap.size N w w') (hN : w0.heap.size ≤ N) : Below w0.heap.size w0 w' := by
  have _ := B
  exact hb.trans (hf.below hN hb.size)
/-- the first line of a block -/
def ifL (a : Ex) (d : Nat) : Str := ind d ++ (kIf ++ 32 :: (tx a ++ opb))
def elL (d : Nat) : Str := ind d ++ (125 :: 32 :: (kElse ++ opb))
def clL (d : Nat) : Str := ind d ++ [125, 10]
def forL (nm : ByteArray) (a b : Ex) (m : Int) (d : Nat) : Str := ind d ++ (kFor ++ 32 :: (str nm ++ 32 :: 61 :: 32 :: (tx a ++ 32 :: (kTo ++ 32 :: (tx b ++ 32 :: (kMax ++ 32 :: (Go.Lib.itoa m ++ opb)))))))
theorem txS_5a (a : Ex) (bd : List St) (d : Nat) : txS (.mk 5 none8 0 a noE bd []) d = ifL a d ++ (txB bd (d + 1) ++ clL d) := by
  rw [otxS_5]; simp [ifL, clL]
theorem txS_5b (a : Ex) (bd el : List St) (d : Nat) (h : ¬ el.isEmpty = true) : txS (.mk 5 none8 0 a noE bd el) d = ifL a d ++ (txB bd (d + 1) ++ (elL d ++ (txB el (d + 1) ++ clL d))) := by
  rw [otxS_5, if_neg h]; simp [ifL, elL, clL]
theorem txS_6b (nm : ByteArray) (m : Int) (a b : Ex) (bd : List St) (d : Nat) : txS (.mk 6 nm m a b bd []) d = forL nm a b m d ++ (txB bd (d + 1) ++ clL d) := by
  rw [otxS_6]; simp [forL, clL]
set_option maxHeartbeats 4000000 in
set_option maxRecDepth 100000 in
theorem owhen_any (a : Ex) (bd el : List St) (wa : W 12 a) (hel : el.length ≤ 1000000000000000) (d : Nat) (hd : d ≤ 100) (HBD : OBk bd d) (HEL : OBk el d) : OMt 202 (.mk 5 none8 0 a noE bd el) d := by
  intro a1 c1 a2 c2 a3 c3 a4 c4 w0 N l w ht hb0 hW hl hK
  have hbx := below_box w (stO (.mk 5 none8 0 a noE bd el) a1 c1 a2 c2 a3 c3 a4 c4)
  have hb1 := hb0.trans (hbx.mono hb0.size)
  have hz := hb1.size
  have hN := hW.1
  have hne : w.heap.size ≠ N := by have := hW.lt; omega
  have HNe := Lib.hid hne
  have HN := Lib.hid hN
  have HB1 := Lib.hid hb1
  have HBx := Lib.hid (BoxS.new w (.mk 5 none8 0 a noE bd el) a1 c1 a2 c2 a3 c3 a4 c4)
  have HA := Lib.hid (oexprText_any wa (by decide) a1 c1 _ (ht.below hb1) (hK.a.below hb1))
  have HW := Lib.hid (fun w2 (hb : Below _ _ w2) => (hW.later hbx).later hb)
  have HZ := Lib.hid (fun w2 (hb : Below (w.alloc (stO (.mk 5 none8 0 a noE bd el) a1 c1 a2 c2 a3 c3 a4 c4)).heap.size (w.alloc (stO (.mk 5 none8 0 a noE bd el) a1 c1 a2 c2 a3 c3 a4 c4)) w2) => Nat.le_trans hz hb.size)
  have HF1 := Lib.hid (Fr.of (B := w0.heap.size) (N := N) hbx)
  have HB := Lib.hid (fun t w2 hb hW2 hl2 => HBD a3 c3 w0 N t w2 ht hb hW2 hl2 hK.body)
  have HE := Lib.hid (fun t w2 hb hW2 hl2 => HEL a4 c4 w0 N t w2 ht hb hW2 hl2 hK.els)
  have hza := otx_size wa (by decide)
  have HX := Lib.hid (oba_list (tx a))
  have HT1 : Hid (ind d ++ (joinS [⟨#[105, 102, 32]⟩, ba (tx a), ⟨#[32, 123]⟩] ++ [10]) = ifL a d) := by
    show _ = _
    unfold joinS ifL
    simp [HX.out, kIf, opb]
  have HT2 : Hid (ind d ++ (joinS [⟨#[125, 32, 101, 108, 115, 101, 32, 123]⟩] ++ [10]) = elL d) := by
    show _ = _
    unfold joinS elL
    simp [kElse, opb]
  have HT3 : Hid (ind d ++ (joinS [⟨#[125]⟩] ++ [10]) = clL d) := by
    show _ = _
    unfold joinS clL
    simp
  by_cases he : el.isEmpty = true
  · obtain rfl := List.isEmpty_iff.1 he
    rw [txS_5a] at hl ⊢
    simp only [List.length_append] at hl
    have HL1 := Lib.hid (show l.length + (ifL a d).length ≤ 1000000000000 by omega)
    have HL2 := Lib.hid (show (l ++ ifL a d).length + (txB bd (d + 1)).length ≤ 1000000000000 by rw [List.length_append]; omega)
    have HL3 := Lib.hid (show (l ++ ifL a d ++ txB bd (d + 1)).length + (clL d).length ≤ 1000000000000 by rw [List.length_append, List.length_append]; omega)
    generalize ifL a d = t1 at HT1 HL1 HL2 HL3 ⊢
    generalize clL d = t3 at HT3 HL3 ⊢
    generalize ba (tx a) = T at HA hza HX HT1
    generalize txB bd (d + 1) = t2 at HB HL2 HL3 ⊢
    unfold exV at HA
    simp only [ostC_mk, ostO_mk, List.length_nil, onoE_op, onoE_n, onoE_s, onoE_args] at *
    clear hbx hb1 ht hK hl hz wa hW hb0 hne hN he HE HEL HBD hel HT2
    go_enter Tryz.func202, Tryz.ntmps202
    go_wp2_with fail
    refine HA.out.mono ?_; rintro e w2 ⟨rfl, hb2⟩
    have HC := Lib.hid (oline_to [⟨#[105, 102, 32]⟩, T, ⟨#[32, 123]⟩] t1 3 (by omega) (by simp) (HZ.out w2 hb2) (HW.out w2 hb2) HT1.out HL1.out)
    have HF2 := Lib.hid (HF1.out.trans (Fr.of hb2))
    have HB2 := Lib.hid (HBx.out.below hb2)
    have HBw := Lib.hid (HB1.out.trans (hb2.mono (HZ.out _ (Below.refl _ _))))
    clear hb2
    go_wp2_with fail
    refine HC.out.mono ?_; rintro e w3 ⟨rfl, hW3, hF3⟩
    have HW3 := Lib.hid hW3
    have HF3 := Lib.hid (HF2.out.trans hF3)
    have HB3 := Lib.hid (HB2.out.fr hF3 HNe.out)
    have HBw3 := Lib.hid (Fr.world (B := 0) HBw.out hF3 HN.out)
    have k11 := HB3.out.cells.k11
    simp only [Nat.zero_add] at k11
    clear hW3 hF3
    go_wp2_with fail
    refine (HB.out _ w3 HBw3.out HW3.out HL2.out).mono ?_; rintro e w4 ⟨rfl, hW4, hF4⟩
    have HW4 := Lib.hid hW4
    have HF4 := Lib.hid (HF3.out.trans hF4)
    have HB4 := Lib.hid (HB3.out.fr hF4 HNe.out)
    have HBw4 := Lib.hid (Fr.world (B := 0) HBw3.out hF4 HN.out)
    have k12 := HB4.out.cells.k12
    simp only [Nat.zero_add] at k12
    have HC4 := Lib.hid (oline_to [⟨#[125]⟩] t3 1 (by omega) (by simp) HBw4.out.size hW4 HT3.out HL3.out)
    clear hW4 hF4 k11
    go_wp2_with fail
    refine HC4.out.mono ?_; rintro e w5 ⟨rfl, hW5, hF5⟩
    have HW5 := Lib.hid hW5
    have HF5 := Lib.hid (HF4.out.trans hF5)
    clear hW5 hF5 k12
    go_wp2_with fail
    go_end0
    exact ⟨rfl, (by rw [List.append_assoc, List.append_assoc] at HW5; exact HW5.out), HF5.out⟩
  · rw [txS_5b a bd el d he] at hl ⊢
    simp only [List.length_append] at hl
    have HL1 := Lib.hid (show l.length + (ifL a d).length ≤ 1000000000000 by omega)
    have HL2 := Lib.hid (show (l ++ ifL a d).length + (txB bd (d + 1)).length ≤ 1000000000000 by rw [List.length_append]; omega)
    have HL3 := Lib.hid (show (l ++ ifL a d ++ txB bd (d + 1)).length + (elL d).length ≤ 1000000000000 by rw [List.length_append, List.length_append]; omega)
    have HL4 := Lib.hid (show (l ++ ifL a d ++ txB bd (d + 1) ++ elL d).length + (txB el (d + 1)).length ≤ 1000000000000 by rw [List.length_append, List.length_append, List.length_append]; omega)
    have HL5 := Lib.hid (show (l ++ ifL a d ++ txB bd (d + 1) ++ elL d ++ txB el (d + 1)).length + (clL d).length ≤ 1000000000000 by rw [List.length_append, List.length_append, List.length_append, List.length_append]; omega)
    generalize ifL a d = t1 at HT1 HL1 HL2 HL3 HL4 HL5 ⊢
    generalize elL d = te at HT2 HL3 HL4 HL5 ⊢
    generalize clL d = t3 at HT3 HL5 ⊢
    generalize ba (tx a) = T at HA hza HX HT1
    generalize txB bd (d + 1) = t2 at HB HL2 HL3 HL4 HL5 ⊢
    generalize txB el (d + 1) = t4 at HE HL4 HL5 ⊢
    have hl0 : 0 < el.length := List.length_pos_iff.2 (fun e => he (by rw [e]; rfl))
    unfold exV at HA
    simp only [ostC_mk, ostO_mk, List.length_nil, onoE_op, onoE_n, onoE_s, onoE_args] at *
    clear hbx hb1 ht hK hl hz wa hW hb0 hne hN he HEL HBD
    have HBx2 : Hid (∀ w', Below _ _ w' → BoxS w' w.heap.size (.mk 5 none8 0 a noE bd el) a1 c1 a2 c2 a3 c3 a4 c4) := fun w' hb => HBx.out.below hb
    obtain ⟨m, hm⟩ : ∃ m, el.length = m := ⟨_, rfl⟩
    have HM := Lib.hid hm
    rw [hm] at hl0 hel HA HW HZ HF1 HE HB1 ⊢
    have HBx3 : Hid (∀ w', Below (w.alloc (.cells #[.int .i64 5, .string none8, .int .i64 0, .int .i64 a.op, .int .i64 a.n, .string a.s, .slice a1 a.args.length c1, .int .i64 0, .int .i64 0, .string none8, .slice a2 0 c2, .slice a3 bd.length c3, .slice a4 m c4] 76)).heap.size (w.alloc (.cells #[.int .i64 5, .string none8, .int .i64 0, .int .i64 a.op, .int .i64 a.n, .string a.s, .slice a1 a.args.length c1, .int .i64 0, .int .i64 0, .string none8, .slice a2 0 c2, .slice a3 bd.length c3, .slice a4 m c4] 76)) w' → BoxS w' w.heap.size (.mk 5 none8 0 a noE bd el) a1 c1 a2 c2 a3 c3 a4 c4) := by
      rw [← hm]
      exact HBx2.out
    clear hm HBx HBx2
    go_enter Tryz.func202, Tryz.ntmps202
    go_wp2_with fail
    refine HA.out.mono ?_; rintro e w2 ⟨rfl, hb2⟩
    have HC := Lib.hid (oline_to [⟨#[105, 102, 32]⟩, T, ⟨#[32, 123]⟩] t1 3 (by omega) (by simp) (HZ.out w2 hb2) (HW.out w2 hb2) HT1.out HL1.out)
    have HF2 := Lib.hid (HF1.out.trans (Fr.of hb2))
    have HB2 := Lib.hid (HBx3.out _ hb2)
    have HBw := Lib.hid (HB1.out.trans (hb2.mono (HZ.out _ (Below.refl _ _))))
    clear hb2
    go_wp2_with fail
    refine HC.out.mono ?_; rintro e w3 ⟨rfl, hW3, hF3⟩
    have HW3 := Lib.hid hW3
    have HF3 := Lib.hid (HF2.out.trans hF3)
    have HB3 := Lib.hid (HB2.out.fr hF3 HNe.out)
    have HBw3 := Lib.hid (Fr.world (B := 0) HBw.out hF3 HN.out)
    have k11 := HB3.out.cells.k11
    simp only [Nat.zero_add] at k11
    clear hW3 hF3
    go_wp2_with fail
    refine (HB.out _ w3 HBw3.out HW3.out HL2.out).mono ?_; rintro e w4 ⟨rfl, hW4, hF4⟩
    have HW4 := Lib.hid hW4
    have HF4 := Lib.hid (HF3.out.trans hF4)
    have HB4 := Lib.hid (HB3.out.fr hF4 HNe.out)
    have HBw4 := Lib.hid (Fr.world (B := 0) HBw3.out hF4 HN.out)
    have k12 : w4.cell? ⟨w.heap.size, 12, none⟩ = some (.slice a4 m c4) := by have h := HB4.out.cells.k12; rw [← HM.out]; exact h
    have HC4 := Lib.hid (oline_to [⟨#[125, 32, 101, 108, 115, 101, 32, 123]⟩] te 1 (by omega) (by simp) HBw4.out.size hW4 HT2.out HL3.out)
    clear hW4 hF4 k11
    go_wp2_with fail
    refine HC4.out.mono ?_; rintro e w5 ⟨rfl, hW5, hF5⟩
    have HW5 := Lib.hid hW5
    have HF5 := Lib.hid (HF4.out.trans hF5)
    have HB5 := Lib.hid (HB4.out.fr hF5 HNe.out)
    have HBw5 := Lib.hid (Fr.world (B := 0) HBw4.out hF5 HN.out)
    have k12b : w5.cell? ⟨w.heap.size, 12, none⟩ = some (.slice a4 m c4) := by have h := HB5.out.cells.k12; rw [← HM.out]; exact h
    clear hW5 hF5 k12
    go_wp2_with fail
    refine (HE.out _ w5 HBw5.out HW5.out HL4.out).mono ?_; rintro e w6 ⟨rfl, hW6, hF6⟩
    have HF6 := Lib.hid (HF5.out.trans hF6)
    have HBw6 := Lib.hid (Fr.world (B := 0) HBw5.out hF6 HN.out)
    have HC6 := Lib.hid (oline_to [⟨#[125]⟩] t3 1 (by omega) (by simp) HBw6.out.size hW6 HT3.out HL5.out)
    clear hW6 hF6 k12b
    go_wp2_with fail
    refine HC6.out.mono ?_; rintro e w7 ⟨rfl, hW7, hF7⟩
    have HW7 := Lib.hid hW7
    have HF7 := Lib.hid (HF6.out.trans hF7)
    clear hW7 hF7
    go_wp2_with fail
    go_end0
    exact ⟨rfl, (by simp only [List.append_assoc] at HW7; exact HW7.out), HF7.out⟩
end Go.Proofs.YteglaeopaocilaaGreatDoor.P
namespace Go.Proofs.YteglaeopaocilaaGreatDoor.P
open Go.RowKit
open L (Str isName prt size_len below_2 below_box ret_bool ret_int ret_string bytes_eq append_list Own8)
open A

set_option maxHeartbeats 4000000 in
set_option maxRecDepth 100000 in
theorem oloop_any (nm : ByteArray) (m : Int) (a b : Ex) (bd : List St) (_hn : nam nm = true) (h0 : 1 ≤ m) (h1 : m ≤ 16) (wa : W 12 a) (wb : W 12 b) (d : Nat) (hd : d ≤ 100) (HBD : OBk bd d) : OMt 203 (.mk 6 nm m a b bd []) d := by
  intro a1 c1 a2 c2 a3 c3 a4 c4 w0 N l w ht hb0 hW hl hK
  have hbx := below_2 (below_box w (stO (.mk 6 nm m a b bd []) a1 c1 a2 c2 a3 c3 a4 c4)) (L.below_drew _)
  have hb1 := hb0.trans (hbx.mono hb0.size)
  have hz := hb1.size
  have hN := hW.1
  have hne : w.heap.size ≠ N := by have := hW.lt; omega
  have HNe := Lib.hid hne
  have HN := Lib.hid hN
  have HB1 := Lib.hid hb1
  have HBx := Lib.hid ((BoxS.new w (.mk 6 nm m a b bd []) a1 c1 a2 c2 a3 c3 a4 c4).below (L.below_drew _))
  have HA := Lib.hid (oexprText_any wa (by decide) a1 c1 _ (ht.below hb1) (hK.a.below hb1))
  have HY := Lib.hid (fun w2 (hb : Below (w.alloc (stO (.mk 6 nm m a b bd []) a1 c1 a2 c2 a3 c3 a4 c4)).drew.heap.size (w.alloc (stO (.mk 6 nm m a b bd []) a1 c1 a2 c2 a3 c3 a4 c4)).drew w2) => oexprText_any wb (by decide) a2 c2 w2 ((ht.below hb1).below hb) ((hK.b.below hb1).below hb))
  have HFm := Lib.hid (fun w2 (hb : Below (w.alloc (stO (.mk 6 nm m a b bd []) a1 c1 a2 c2 a3 c3 a4 c4)).drew.heap.size (w.alloc (stO (.mk 6 nm m a b bd []) a1 c1 a2 c2 a3 c3 a4 c4)).drew w2) => ofmt_any m (by omega) (by omega) w2 ((ht.below hb1).below hb))
  have HW := Lib.hid (fun w2 (hb : Below _ _ w2) => (hW.later hbx).later hb)
  have HZ := Lib.hid (fun w2 (hb : Below (w.alloc (stO (.mk 6 nm m a b bd []) a1 c1 a2 c2 a3 c3 a4 c4)).drew.heap.size (w.alloc (stO (.mk 6 nm m a b bd []) a1 c1 a2 c2 a3 c3 a4 c4)).drew w2) => Nat.le_trans hz hb.size)
  have HF := Lib.hid (fun w2 (hb : Below _ _ w2) => (Fr.of (B := w0.heap.size) (N := N) hbx).trans (Fr.of hb))
  have HBk := Lib.hid (fun t w2 hb hW2 hl2 => HBD a3 c3 w0 N t w2 ht hb hW2 hl2 hK.body)
  have hw64 : IntKind.i64.wrap m = m := IntWalk.i64_in _ (by omega)
  have HX := Lib.hid (oba_list (tx a))
  have HXb := Lib.hid (oba_list (tx b))
  have HXm := Lib.hid (oba_list (Go.Lib.itoa m))
  have HT1 : Hid (ind d ++ (joinS [⟨#[102, 111, 114, 32]⟩, nm, ⟨#[32, 61, 32]⟩, ba (tx a), ⟨#[32, 116, 111, 32]⟩, ba (tx b), ⟨#[32, 109, 97, 120, 32]⟩, ba (Go.Lib.itoa m), ⟨#[32, 123]⟩] ++ [10]) = forL nm a b m d) := by
    show _ = _
    unfold joinS forL
    simp [HX.out, HXb.out, HXm.out, kFor, kTo, kMax, opb, str]
  have HT3 : Hid (ind d ++ (joinS [⟨#[125]⟩] ++ [10]) = clL d) := by
    show _ = _
    unfold joinS clL
    simp
  rw [txS_6b] at hl ⊢
  simp only [List.length_append] at hl
  have HL1 := Lib.hid (show l.length + (forL nm a b m d).length ≤ 1000000000000 by omega)
  have HL2 := Lib.hid (show (l ++ forL nm a b m d).length + (txB bd (d + 1)).length ≤ 1000000000000 by rw [List.length_append]; omega)
  have HL3 := Lib.hid (show (l ++ forL nm a b m d ++ txB bd (d + 1)).length + (clL d).length ≤ 1000000000000 by rw [List.length_append, List.length_append]; omega)
  generalize forL nm a b m d = t1 at HT1 HL1 HL2 HL3 ⊢
  generalize clL d = t3 at HT3 HL3 ⊢
  generalize ba (tx a) = T at HA HX HT1
  generalize ba (tx b) = U at HY HXb HT1
  generalize ba (Go.Lib.itoa m) = V at HFm HXm HT1
  generalize txB bd (d + 1) = t2 at HBk HL2 HL3 ⊢
  unfold exV at HA HY
  simp only [ostC_mk, ostO_mk, List.length_nil] at *
  clear hbx hb1 ht hK hl hz hW hb0 wa wb _hn hne hN HBD
  go_enter Tryz.func203, Tryz.ntmps203
  go_wp2_with fail
  go_region_held3 (fun w' => w'.cell? ⟨w.heap.size, 1, none⟩ = some (.string nm) ∧ w'.cell? ⟨w.heap.size, 2, none⟩ = some (.int .i64 m) ∧ w'.cell? ⟨w.heap.size, 3, none⟩ = some (.int .i64 a.op) ∧ w'.cell? ⟨w.heap.size, 4, none⟩ = some (.int .i64 a.n) ∧ w'.cell? ⟨w.heap.size, 5, none⟩ = some (.string a.s) ∧ w'.cell? ⟨w.heap.size, 6, none⟩ = some (.slice a1 a.args.length c1) ∧ w'.cell? ⟨w.heap.size, 7, none⟩ = some (.int .i64 b.op) ∧ w'.cell? ⟨w.heap.size, 8, none⟩ = some (.int .i64 b.n) ∧ w'.cell? ⟨w.heap.size, 9, none⟩ = some (.string b.s) ∧ w'.cell? ⟨w.heap.size, 10, none⟩ = some (.slice a2 b.args.length c2))
    (first | exact ⟨HBy.out.cells.k1, HBy.out.cells.k2, HBy.out.cells.k3, HBy.out.cells.k4, HBy.out.cells.k5, HBy.out.cells.k6, HBy.out.cells.k7, HBy.out.cells.k8, HBy.out.cells.k9, HBy.out.cells.k10⟩ | exact ⟨HBz.out.cells.k1, HBz.out.cells.k2, HBz.out.cells.k3, HBz.out.cells.k4, HBz.out.cells.k5, HBz.out.cells.k6, HBz.out.cells.k7, HBz.out.cells.k8, HBz.out.cells.k9, HBz.out.cells.k10⟩ | exact ⟨HBu.out.cells.k1, HBu.out.cells.k2, HBu.out.cells.k3, HBu.out.cells.k4, HBu.out.cells.k5, HBu.out.cells.k6, HBu.out.cells.k7, HBu.out.cells.k8, HBu.out.cells.k9, HBu.out.cells.k10⟩ | exact ⟨HBj.out.cells.k1, HBj.out.cells.k2, HBj.out.cells.k3, HBj.out.cells.k4, HBj.out.cells.k5, HBj.out.cells.k6, HBj.out.cells.k7, HBj.out.cells.k8, HBj.out.cells.k9, HBj.out.cells.k10⟩ | exact ⟨(HAl.out _).k1, (HAl.out _).k2, (HAl.out _).k3, (HAl.out _).k4, (HAl.out _).k5, (HAl.out _).k6, (HAl.out _).k7, (HAl.out _).k8, (HAl.out _).k9, (HAl.out _).k10⟩ | go_keep | (refine ⟨?_, ?_, ?_, ?_, ?_, ?_, ?_, ?_, ?_, ?_⟩ <;> go_simp))
    (first
      | (go_at_call 60; (with_reducible refine HA.out.mono ?_); rintro e w1 ⟨rfl, hb1⟩; have HB1x := Lib.hid hb1; have HBy := Lib.hid (HBx.out.below hb1); clear hb1)
      | (go_at_call 60; (with_reducible refine (HY.out _ HB1x.out).mono ?_); rintro e w2 ⟨rfl, hb2⟩; have HB2 := Lib.hid (below_2 HB1x.out hb2); have HBz := Lib.hid (HBy.out.below hb2); clear hb2)
      | (go_at_call 126; (with_reducible refine (HFm.out _ HB2.out).mono ?_); rintro e w3 ⟨rfl, hb3⟩; have HB3 := Lib.hid (below_2 HB2.out hb3); have HBu := Lib.hid (HBz.out.below hb3); have HAl := Lib.hid (fun o => (HBu.out.below (below_box w3 o)).cells); have HC := Lib.hid (oline_to [⟨#[102, 111, 114, 32]⟩, nm, ⟨#[32, 61, 32]⟩, T, ⟨#[32, 116, 111, 32]⟩, U, ⟨#[32, 109, 97, 120, 32]⟩, V, ⟨#[32, 123]⟩] t1 9 (by omega) (by simp) (HZ.out w3 HB3.out) (HW.out w3 HB3.out) HT1.out HL1.out); clear hb3)
      | (go_at_call 61; refine HC.out.mono ?_; rintro e w4 ⟨rfl, hW4, hF4⟩; have HW4 := Lib.hid hW4; have HF4 := Lib.hid ((HF.out w3 HB3.out).trans hF4); have HBj := Lib.hid (HBu.out.fr hF4 HNe.out); have HBw4 := Lib.hid (Fr.world (B := 0) (HB1.out.trans (HB3.out.mono (HZ.out _ (Below.refl _ _)))) hF4 HN.out); clear hW4 hF4))
  have k11 := HBj.out.cells.k11
  simp only [Nat.zero_add] at k11
  go_wp2_with fail
  refine (HBk.out _ w4 HBw4.out HW4.out HL2.out).mono ?_; rintro e w5 ⟨rfl, hW5, hF5⟩
  have HF5 := Lib.hid (HF4.out.trans hF5)
  have HBw5 := Lib.hid (Fr.world (B := 0) HBw4.out hF5 HN.out)
  have HC5 := Lib.hid (oline_to [⟨#[125]⟩] t3 1 (by omega) (by simp) HBw5.out.size hW5 HT3.out HL3.out)
  clear hW5 hF5 k11
  go_wp2_with fail
  refine HC5.out.mono ?_; rintro e w6 ⟨rfl, hW6, hF6⟩
  have HW6 := Lib.hid hW6
  have HF6 := Lib.hid (HF5.out.trans hF6)
  clear hW6 hF6
  go_wp2_with fail
  go_end0
  exact ⟨rfl, (by simp only [List.append_assoc] at HW6; exact HW6.out), HF6.out⟩
/-- the count of blocks is stored -/
theorem Wr.blocks {w : World} {B N : Nat} {l : Str} {d : Nat} (h : Wr w B N l d) (e : Nat) : Wr (w.setCell ⟨N, 1, none⟩ (.int .i64 (e : Int))) B N l e ∧ Fr B N w (w.setCell ⟨N, 1, none⟩ (.int .i64 (e : Int))) := by
  obtain ⟨hB, v, hN, ho⟩ := h
  have hs : w.grownBy (w.setCell ⟨N, 1, none⟩ (.int .i64 (e : Int))) (some N) := ⟨rfl, rfl, rfl, by simp [World.setCell], fun k _ hk => Below.heap_setCell _ _ _ k (fun e => hk (by rw [e]))⟩
  refine ⟨⟨hB, v, by simp [World.setCell, Array.getElem?_modify, hN], ?_⟩, ?_⟩
  · refine World.ownsRow.kept ho hs ?_
    by_cases hn : v.ownBlock = none
    · exact Or.inl hn
    · exact Or.inr (fun e => own_apart ho hN wt_ne e.symm)
  · exact ⟨rfl, rfl, rfl, hs.size, fun k _ hn _ => Below.heap_setCell _ _ _ k hn⟩
theorem otxB_snoc {l : List St} {k : Nat} (h : k < l.length) (d : Nat) : txB (l.take (k + 1)) d = txB (l.take k) d ++ txS l[k] d := by
  have app : ∀ a b : List St, txB (a ++ b) d = txB a d ++ txB b d := by
    intro a b
    induction a with
    | nil => simp [txB]
    | cons s r ih => rw [List.cons_append, txB, txB, ih, List.append_assoc]
  rw [List.take_succ_eq_append_getElem h, app, txB, txB, List.append_nil]
theorem otxB_take (l : List St) (k : Nat) (d : Nat) : (txB (l.take k) d).length ≤ (txB l d).length := by
  induction l generalizing k with
  | nil => simp
  | cons s r ih =>
    cases k with
    | zero => simp [txB]
    | succ k => rw [List.take_succ_cons, txB, txB, List.length_append, List.length_append]; have := ih k; omega
set_option maxHeartbeats 4000000 in
set_option maxRecDepth 100000 in
theorem oblock_any (l : List St) (d : Nat) (hd : d ≤ 1000) (hl : l.length ≤ 1000000000000000) (H : ∀ s ∈ l, OMt 164 s (d + 1)) : OBk l d := by
  intro a c w0 N t w ht hb0 hW hlen hK
  have hN := hW.1
  have HN := Lib.hid hN
  have HB0 := Lib.hid hb0
  have HH := Lib.hid (fun (k : Nat) (hk : k < l.length) => H l[k] (List.getElem_mem hk))
  have HK := Lib.hid hK
  have HTb := Lib.hid ht
  have HJ := Lib.hid (fun k => Nat.le_trans (Nat.add_le_add_left (otxB_take l k (d + 1)) t.length) hlen)
  obtain ⟨v, _, _, c0, c1, f0, f1⟩ := hW.open
  have HW1 := Lib.hid (hW.blocks (d + 1))
  have he : ((d + 1 : Nat) : Int) = (d : Int) + 1 := by omega
  rw [he] at HW1
  obtain ⟨m, hm⟩ : ∃ m, l.length = m := ⟨_, rfl⟩
  have HL := Lib.hid hm
  have HE := Lib.hid he
  rw [hm] at hl ⊢
  clear hm H hK hW hb0 ht hlen he c0 f0 hN
  go_enter Tryz.func115, Tryz.ntmps115
  go_wp2_with fail
  clear c1 f1
  go_loopw [15] (fun s15 wr => ∃ k : Nat, k ≤ m ∧ s15 = .int .i64 k ∧ Hid (Wr wr w0.heap.size N (t ++ txB (l.take k) (d + 1)) (d + 1)) ∧ Hid (Fr w0.heap.size N w wr)) (fun s15 _ => m - (intOf s15).toNat)
  case atStart => exact ⟨0, Nat.zero_le _, rfl, (by rw [List.take_zero, txB, List.append_nil]; exact HW1.out.1), HW1.out.2⟩
  case round =>
    obtain ⟨k, hk, rfl, HWr, HF⟩ := hrel
    have HBw := Lib.hid (Fr.world (B := 0) HB0.out HF.out HN.out)
    by_cases hlt : k < m
    · have hlx : k < l.length := by rw [HL.out]; exact hlt
      obtain ⟨b2, i2, rfl, hat⟩ := (HK.out.below HBw.out).open hlx
      obtain ⟨b2', i2', heq, hat0⟩ := HK.out.open hlx
      have hsn := otxB_snoc hlx (d + 1)
      have hj := HJ.out (k + 1)
      rw [hsn, List.length_append] at hj
      have hS := HH.out k hlx
      generalize l[k] = s at hat hat0 hsn hj hS
      obtain ⟨a1, c1, a2, c2, a3, c3, a4, c4, hcs, hks⟩ := hat0.open
      have hcs2 := hcs.below HBw.out
      simp only [Option.some.injEq, Addr.mk.injEq] at heq
      obtain ⟨rfl, rfl, _⟩ := heq
      have hbb := below_box wr (stO s a1 c1 a2 c2 a3 c3 a4 c4)
      have hlS : (t ++ txB (l.take k) (d + 1)).length + (txS s (d + 1)).length ≤ 1000000000000 := by rw [List.length_append]; omega
      have HS := Lib.hid (hS a1 c1 a2 c2 a3 c3 a4 c4 w0 N (t ++ txB (l.take k) (d + 1)) _ HTb.out (HBw.out.trans (hbb.mono HBw.out.size)) (HWr.out.later hbb) hlS hks)
      have HFb := Lib.hid (HF.out.trans (Fr.of hbb))
      have HSn := Lib.hid hsn
      obtain ⟨k0, k1, k2, k3, k4, k5, k6, k7, k8, k9, k10, k11, k12⟩ := hcs2
      unfold stC stO at HS
      unfold stO at HFb
      clear hat hat0 hsn hj hS hcs hks hbb hlS
      go_wp2_with fail
      refine HS.out.mono ?_; rintro e w2 ⟨rfl, hW2, hF2⟩
      have HW2 := Lib.hid hW2
      have HF2 := Lib.hid (HFb.out.trans hF2)
      clear hW2 hF2
      go_wp2_with fail
      go_roundw
      case rel => exact ⟨k + 1, by omega, by go_num, (by rw [HSn.out, ← List.append_assoc]; exact HW2.out), HF2.out⟩
      case measure => simp [intOf]; omega
    · have HWe : Hid (txB (l.take k) (d + 1) = txB l (d + 1)) := by show _ = _; rw [List.take_of_length_le (by rw [HL.out]; omega)]
      obtain ⟨v, _, _, c0, c1, f0, f1⟩ := HWr.out.open
      have HW3 := Lib.hid (HWr.out.blocks d)
      rw [HE.out] at c1
      clear c0 f0
      go_wp2_with fail
      go_end0
      exact ⟨rfl, (by rw [HWe.out] at HW3; exact HW3.out.1), HF.out.trans HW3.out.2⟩
end Go.Proofs.YteglaeopaocilaaGreatDoor.P
namespace Go.Proofs.YteglaeopaocilaaGreatDoor.P
open Go.RowKit
open L (Str isName prt size_len below_2 below_box ret_bool ret_int ret_string bytes_eq append_list Own8)
open A

set_option maxHeartbeats 4000000 in
set_option maxRecDepth 100000 in
theorem ostmt_1 (nm : ByteArray) (mx : Int) (a b : Ex) (bd el : List St) (d : Nat) (H : OMt 198 (.mk 1 nm mx a b bd el) d) : OMt 164 (.mk 1 nm mx a b bd el) d := by
  intro a1 c1 a2 c2 a3 c3 a4 c4 w0 N l w ht hb0 hW hl hK
  have hbx := below_2 (below_box w (stO (.mk 1 nm mx a b bd el) a1 c1 a2 c2 a3 c3 a4 c4)) (below_2 (below_box _ (.cells #[.nilFunc, .func (Fn.func 198) #[] #[], .func (Fn.func 199) #[] #[], .func (Fn.func 200) #[] #[], .func (Fn.func 201) #[] #[], .func (Fn.func 202) #[] #[], .func (Fn.func 203) #[] #[], .func (Fn.func 204) #[] #[], .func (Fn.func 205) #[] #[]] 216)) (L.below_drew _))
  have hb1 := hb0.trans (hbx.mono hb0.size)
  have hne : w.heap.size ≠ N := by have := hW.lt; omega
  have hne2 : w.heap.size + 1 ≠ N := by have := hW.lt; omega
  have HNe := Lib.hid hne
  have HBx := Lib.hid ((BoxS.new w (.mk 1 nm mx a b bd el) a1 c1 a2 c2 a3 c3 a4 c4).below (below_2 (below_box _ (.cells #[.nilFunc, .func (Fn.func 198) #[] #[], .func (Fn.func 199) #[] #[], .func (Fn.func 200) #[] #[], .func (Fn.func 201) #[] #[], .func (Fn.func 202) #[] #[], .func (Fn.func 203) #[] #[], .func (Fn.func 204) #[] #[], .func (Fn.func 205) #[] #[]] 216)) (L.below_drew _)))
  have HF := Lib.hid (Fr.of (B := w0.heap.size) (N := N) hbx)
  have HC := Lib.hid (H a1 c1 a2 c2 a3 c3 a4 c4 w0 N l _ ht hb1 (hW.later hbx) hl hK)
  have hT : ((w.alloc (stO (.mk 1 nm mx a b bd el) a1 c1 a2 c2 a3 c3 a4 c4)).alloc (.cells #[.nilFunc, .func (Fn.func 198) #[] #[], .func (Fn.func 199) #[] #[], .func (Fn.func 200) #[] #[], .func (Fn.func 201) #[] #[], .func (Fn.func 202) #[] #[], .func (Fn.func 203) #[] #[], .func (Fn.func 204) #[] #[], .func (Fn.func 205) #[] #[]] 216)).drew.heap[w.heap.size + 1]? = some (.cells #[.nilFunc, .func (Fn.func 198) #[] #[], .func (Fn.func 199) #[] #[], .func (Fn.func 200) #[] #[], .func (Fn.func 201) #[] #[], .func (Fn.func 202) #[] #[], .func (Fn.func 203) #[] #[], .func (Fn.func 204) #[] #[], .func (Fn.func 205) #[] #[]] 216 (0, 0)) := by
    have h := heap_alloc_new (w.alloc (stO (.mk 1 nm mx a b bd el) a1 c1 a2 c2 a3 c3 a4 c4)) (.cells #[.nilFunc, .func (Fn.func 198) #[] #[], .func (Fn.func 199) #[] #[], .func (Fn.func 200) #[] #[], .func (Fn.func 201) #[] #[], .func (Fn.func 202) #[] #[], .func (Fn.func 203) #[] #[], .func (Fn.func 204) #[] #[], .func (Fn.func 205) #[] #[]] 216)
    rw [show (w.alloc (stO (.mk 1 nm mx a b bd el) a1 c1 a2 c2 a3 c3 a4 c4)).heap.size = w.heap.size + 1 by simp] at h
    exact h
  have HT := Lib.hid hT
  have HTf : Hid (∀ w4, Fr w0.heap.size N ((w.alloc (stO (.mk 1 nm mx a b bd el) a1 c1 a2 c2 a3 c3 a4 c4)).alloc (.cells #[.nilFunc, .func (Fn.func 198) #[] #[], .func (Fn.func 199) #[] #[], .func (Fn.func 200) #[] #[], .func (Fn.func 201) #[] #[], .func (Fn.func 202) #[] #[], .func (Fn.func 203) #[] #[], .func (Fn.func 204) #[] #[], .func (Fn.func 205) #[] #[]] 216)).drew w4 → w4.cell? ⟨w.heap.size + 1, 1, none⟩ = some (.func (Fn.func 198) #[] #[])) := fun w4 hf => by
    have h := (hf.block (w.heap.size + 1) (Array.getElem?_eq_some_iff.1 hT).1 hne2 (Or.inr (ornot hT (by decide)))).trans hT
    rw [Lib.cell_of_heap h]; rfl
  generalize txS (.mk 1 nm mx a b bd el) d = t at HC hl ⊢
  simp only [ostC_mk, ostO_mk] at *
  clear hbx hb1 ht hK hl hW hb0 hne hne2 hT H
  go_enter Tryz.func164, Tryz.ntmps164
  go_wp2_with fail
  go_region_held3 (fun w' => w'.cell? ⟨w.heap.size, 0, none⟩ = some (.int .i64 1) ∧ w'.cell? ⟨w.heap.size, 1, none⟩ = some (.string nm) ∧ w'.cell? ⟨w.heap.size, 2, none⟩ = some (.int .i64 mx) ∧ w'.cell? ⟨w.heap.size, 3, none⟩ = some (.int .i64 a.op) ∧ w'.cell? ⟨w.heap.size, 4, none⟩ = some (.int .i64 a.n) ∧ w'.cell? ⟨w.heap.size, 5, none⟩ = some (.string a.s) ∧ w'.cell? ⟨w.heap.size, 6, none⟩ = some (.slice a1 a.args.length c1) ∧ w'.cell? ⟨w.heap.size, 7, none⟩ = some (.int .i64 b.op) ∧ w'.cell? ⟨w.heap.size, 8, none⟩ = some (.int .i64 b.n) ∧ w'.cell? ⟨w.heap.size, 9, none⟩ = some (.string b.s) ∧ w'.cell? ⟨w.heap.size, 10, none⟩ = some (.slice a2 b.args.length c2) ∧ w'.cell? ⟨w.heap.size, 11, none⟩ = some (.slice a3 bd.length c3) ∧ w'.cell? ⟨w.heap.size, 12, none⟩ = some (.slice a4 el.length c4) ∧ w'.cell? ⟨w.heap.size + 1, 1, none⟩ = some (.func (Fn.func 198) #[] #[]))
    (first | exact ⟨HBj.out.cells.k0, HBj.out.cells.k1, HBj.out.cells.k2, HBj.out.cells.k3, HBj.out.cells.k4, HBj.out.cells.k5, HBj.out.cells.k6, HBj.out.cells.k7, HBj.out.cells.k8, HBj.out.cells.k9, HBj.out.cells.k10, HBj.out.cells.k11, HBj.out.cells.k12, HTj.out⟩ | go_keep | (refine ⟨?_, ?_, ?_, ?_, ?_, ?_, ?_, ?_, ?_, ?_, ?_, ?_, ?_, ?_⟩ <;> go_simp))
    (first
      | (go_at_call 198; refine HC.out.mono ?_; rintro e w4 ⟨rfl, hW4, hF4⟩; have HW4 := Lib.hid hW4; have HF4 := Lib.hid (HF.out.trans hF4); have HBj := Lib.hid (HBx.out.fr hF4 HNe.out); have HTj := Lib.hid (HTf.out w4 hF4); clear hW4 hF4))
  go_wp2_with fail
  go_end0
  exact ⟨rfl, HW4.out, HF4.out⟩
set_option maxHeartbeats 4000000 in
set_option maxRecDepth 100000 in
theorem ostmt_2 (nm : ByteArray) (mx : Int) (a b : Ex) (bd el : List St) (d : Nat) (H : OMt 199 (.mk 2 nm mx a b bd el) d) : OMt 164 (.mk 2 nm mx a b bd el) d := by
  intro a1 c1 a2 c2 a3 c3 a4 c4 w0 N l w ht hb0 hW hl hK
  have hbx := below_2 (below_box w (stO (.mk 2 nm mx a b bd el) a1 c1 a2 c2 a3 c3 a4 c4)) (below_2 (below_box _ (.cells #[.nilFunc, .func (Fn.func 198) #[] #[], .func (Fn.func 199) #[] #[], .func (Fn.func 200) #[] #[], .func (Fn.func 201) #[] #[], .func (Fn.func 202) #[] #[], .func (Fn.func 203) #[] #[], .func (Fn.func 204) #[] #[], .func (Fn.func 205) #[] #[]] 216)) (L.below_drew _))
  have hb1 := hb0.trans (hbx.mono hb0.size)
  have hne : w.heap.size ≠ N := by have := hW.lt; omega
  have hne2 : w.heap.size + 1 ≠ N := by have := hW.lt; omega
  have HNe := Lib.hid hne
  have HBx := Lib.hid ((BoxS.new w (.mk 2 nm mx a b bd el) a1 c1 a2 c2 a3 c3 a4 c4).below (below_2 (below_box _ (.cells #[.nilFunc, .func (Fn.func 198) #[] #[], .func (Fn.func 199) #[] #[], .func (Fn.func 200) #[] #[], .func (Fn.func 201) #[] #[], .func (Fn.func 202) #[] #[], .func (Fn.func 203) #[] #[], .func (Fn.func 204) #[] #[], .func (Fn.func 205) #[] #[]] 216)) (L.below_drew _)))
  have HF := Lib.hid (Fr.of (B := w0.heap.size) (N := N) hbx)
  have HC := Lib.hid (H a1 c1 a2 c2 a3 c3 a4 c4 w0 N l _ ht hb1 (hW.later hbx) hl hK)
  have hT : ((w.alloc (stO (.mk 2 nm mx a b bd el) a1 c1 a2 c2 a3 c3 a4 c4)).alloc (.cells #[.nilFunc, .func (Fn.func 198) #[] #[], .func (Fn.func 199) #[] #[], .func (Fn.func 200) #[] #[], .func (Fn.func 201) #[] #[], .func (Fn.func 202) #[] #[], .func (Fn.func 203) #[] #[], .func (Fn.func 204) #[] #[], .func (Fn.func 205) #[] #[]] 216)).drew.heap[w.heap.size + 1]? = some (.cells #[.nilFunc, .func (Fn.func 198) #[] #[], .func (Fn.func 199) #[] #[], .func (Fn.func 200) #[] #[], .func (Fn.func 201) #[] #[], .func (Fn.func 202) #[] #[], .func (Fn.func 203) #[] #[], .func (Fn.func 204) #[] #[], .func (Fn.func 205) #[] #[]] 216 (0, 0)) := by
    have h := heap_alloc_new (w.alloc (stO (.mk 2 nm mx a b bd el) a1 c1 a2 c2 a3 c3 a4 c4)) (.cells #[.nilFunc, .func (Fn.func 198) #[] #[], .func (Fn.func 199) #[] #[], .func (Fn.func 200) #[] #[], .func (Fn.func 201) #[] #[], .func (Fn.func 202) #[] #[], .func (Fn.func 203) #[] #[], .func (Fn.func 204) #[] #[], .func (Fn.func 205) #[] #[]] 216)
    rw [show (w.alloc (stO (.mk 2 nm mx a b bd el) a1 c1 a2 c2 a3 c3 a4 c4)).heap.size = w.heap.size + 1 by simp] at h
    exact h
  have HT := Lib.hid hT
  have HTf : Hid (∀ w4, Fr w0.heap.size N ((w.alloc (stO (.mk 2 nm mx a b bd el) a1 c1 a2 c2 a3 c3 a4 c4)).alloc (.cells #[.nilFunc, .func (Fn.func 198) #[] #[], .func (Fn.func 199) #[] #[], .func (Fn.func 200) #[] #[], .func (Fn.func 201) #[] #[], .func (Fn.func 202) #[] #[], .func (Fn.func 203) #[] #[], .func (Fn.func 204) #[] #[], .func (Fn.func 205) #[] #[]] 216)).drew w4 → w4.cell? ⟨w.heap.size + 1, 2, none⟩ = some (.func (Fn.func 199) #[] #[])) := fun w4 hf => by
    have h := (hf.block (w.heap.size + 1) (Array.getElem?_eq_some_iff.1 hT).1 hne2 (Or.inr (ornot hT (by decide)))).trans hT
    rw [Lib.cell_of_heap h]; rfl
  generalize txS (.mk 2 nm mx a b bd el) d = t at HC hl ⊢
  simp only [ostC_mk, ostO_mk] at *
  clear hbx hb1 ht hK hl hW hb0 hne hne2 hT H
  go_enter Tryz.func164, Tryz.ntmps164
  go_wp2_with fail
  go_region_held3 (fun w' => w'.cell? ⟨w.heap.size, 0, none⟩ = some (.int .i64 2) ∧ w'.cell? ⟨w.heap.size, 1, none⟩ = some (.string nm) ∧ w'.cell? ⟨w.heap.size, 2, none⟩ = some (.int .i64 mx) ∧ w'.cell? ⟨w.heap.size, 3, none⟩ = some (.int .i64 a.op) ∧ w'.cell? ⟨w.heap.size, 4, none⟩ = some (.int .i64 a.n) ∧ w'.cell? ⟨w.heap.size, 5, none⟩ = some (.string a.s) ∧ w'.cell? ⟨w.heap.size, 6, none⟩ = some (.slice a1 a.args.length c1) ∧ w'.cell? ⟨w.heap.size, 7, none⟩ = some (.int .i64 b.op) ∧ w'.cell? ⟨w.heap.size, 8, none⟩ = some (.int .i64 b.n) ∧ w'.cell? ⟨w.heap.size, 9, none⟩ = some (.string b.s) ∧ w'.cell? ⟨w.heap.size, 10, none⟩ = some (.slice a2 b.args.length c2) ∧ w'.cell? ⟨w.heap.size, 11, none⟩ = some (.slice a3 bd.length c3) ∧ w'.cell? ⟨w.heap.size, 12, none⟩ = some (.slice a4 el.length c4) ∧ w'.cell? ⟨w.heap.size + 1, 2, none⟩ = some (.func (Fn.func 199) #[] #[]))
    (first | exact ⟨HBj.out.cells.k0, HBj.out.cells.k1, HBj.out.cells.k2, HBj.out.cells.k3, HBj.out.cells.k4, HBj.out.cells.k5, HBj.out.cells.k6, HBj.out.cells.k7, HBj.out.cells.k8, HBj.out.cells.k9, HBj.out.cells.k10, HBj.out.cells.k11, HBj.out.cells.k12, HTj.out⟩ | go_keep | (refine ⟨?_, ?_, ?_, ?_, ?_, ?_, ?_, ?_, ?_, ?_, ?_, ?_, ?_, ?_⟩ <;> go_simp))
    (first
      | (go_at_call 199; refine HC.out.mono ?_; rintro e w4 ⟨rfl, hW4, hF4⟩; have HW4 := Lib.hid hW4; have HF4 := Lib.hid (HF.out.trans hF4); have HBj := Lib.hid (HBx.out.fr hF4 HNe.out); have HTj := Lib.hid (HTf.out w4 hF4); clear hW4 hF4))
  go_wp2_with fail
  go_end0
  exact ⟨rfl, HW4.out, HF4.out⟩
set_option maxHeartbeats 4000000 in
set_option maxRecDepth 100000 in
theorem ostmt_3 (nm : ByteArray) (mx : Int) (a b : Ex) (bd el : List St) (d : Nat) (H : OMt 200 (.mk 3 nm mx a b bd el) d) : OMt 164 (.mk 3 nm mx a b bd el) d := by
  intro a1 c1 a2 c2 a3 c3 a4 c4 w0 N l w ht hb0 hW hl hK
  have hbx := below_2 (below_box w (stO (.mk 3 nm mx a b bd el) a1 c1 a2 c2 a3 c3 a4 c4)) (below_2 (below_box _ (.cells #[.nilFunc, .func (Fn.func 198) #[] #[], .func (Fn.func 199) #[] #[], .func (Fn.func 200) #[] #[], .func (Fn.func 201) #[] #[], .func (Fn.func 202) #[] #[], .func (Fn.func 203) #[] #[], .func (Fn.func 204) #[] #[], .func (Fn.func 205) #[] #[]] 216)) (L.below_drew _))
  have hb1 := hb0.trans (hbx.mono hb0.size)
  have hne : w.heap.size ≠ N := by have := hW.lt; omega
  have hne2 : w.heap.size + 1 ≠ N := by have := hW.lt; omega
  have HNe := Lib.hid hne
  have HBx := Lib.hid ((BoxS.new w (.mk 3 nm mx a b bd el) a1 c1 a2 c2 a3 c3 a4 c4).below (below_2 (below_box _ (.cells #[.nilFunc, .func (Fn.func 198) #[] #[], .func (Fn.func 199) #[] #[], .func (Fn.func 200) #[] #[], .func (Fn.func 201) #[] #[], .func (Fn.func 202) #[] #[], .func (Fn.func 203) #[] #[], .func (Fn.func 204) #[] #[], .func (Fn.func 205) #[] #[]] 216)) (L.below_drew _)))
  have HF := Lib.hid (Fr.of (B := w0.heap.size) (N := N) hbx)
  have HC := Lib.hid (H a1 c1 a2 c2 a3 c3 a4 c4 w0 N l _ ht hb1 (hW.later hbx) hl hK)
  have hT : ((w.alloc (stO (.mk 3 nm mx a b bd el) a1 c1 a2 c2 a3 c3 a4 c4)).alloc (.cells #[.nilFunc, .func (Fn.func 198) #[] #[], .func (Fn.func 199) #[] #[], .func (Fn.func 200) #[] #[], .func (Fn.func 201) #[] #[], .func (Fn.func 202) #[] #[], .func (Fn.func 203) #[] #[], .func (Fn.func 204) #[] #[], .func (Fn.func 205) #[] #[]] 216)).drew.heap[w.heap.size + 1]? = some (.cells #[.nilFunc, .func (Fn.func 198) #[] #[], .func (Fn.func 199) #[] #[], .func (Fn.func 200) #[] #[], .func (Fn.func 201) #[] #[], .func (Fn.func 202) #[] #[], .func (Fn.func 203) #[] #[], .func (Fn.func 204) #[] #[], .func (Fn.func 205) #[] #[]] 216 (0, 0)) := by
    have h := heap_alloc_new (w.alloc (stO (.mk 3 nm mx a b bd el) a1 c1 a2 c2 a3 c3 a4 c4)) (.cells #[.nilFunc, .func (Fn.func 198) #[] #[], .func (Fn.func 199) #[] #[], .func (Fn.func 200) #[] #[], .func (Fn.func 201) #[] #[], .func (Fn.func 202) #[] #[], .func (Fn.func 203) #[] #[], .func (Fn.func 204) #[] #[], .func (Fn.func 205) #[] #[]] 216)
    rw [show (w.alloc (stO (.mk 3 nm mx a b bd el) a1 c1 a2 c2 a3 c3 a4 c4)).heap.size = w.heap.size + 1 by simp] at h
    exact h
  have HT := Lib.hid hT
  have HTf : Hid (∀ w4, Fr w0.heap.size N ((w.alloc (stO (.mk 3 nm mx a b bd el) a1 c1 a2 c2 a3 c3 a4 c4)).alloc (.cells #[.nilFunc, .func (Fn.func 198) #[] #[], .func (Fn.func 199) #[] #[], .func (Fn.func 200) #[] #[], .func (Fn.func 201) #[] #[], .func (Fn.func 202) #[] #[], .func (Fn.func 203) #[] #[], .func (Fn.func 204) #[] #[], .func (Fn.func 205) #[] #[]] 216)).drew w4 → w4.cell? ⟨w.heap.size + 1, 3, none⟩ = some (.func (Fn.func 200) #[] #[])) := fun w4 hf => by
    have h := (hf.block (w.heap.size + 1) (Array.getElem?_eq_some_iff.1 hT).1 hne2 (Or.inr (ornot hT (by decide)))).trans hT
    rw [Lib.cell_of_heap h]; rfl
  generalize txS (.mk 3 nm mx a b bd el) d = t at HC hl ⊢
  simp only [ostC_mk, ostO_mk] at *
  clear hbx hb1 ht hK hl hW hb0 hne hne2 hT H
  go_enter Tryz.func164, Tryz.ntmps164
  go_wp2_with fail
  go_region_held3 (fun w' => w'.cell? ⟨w.heap.size, 0, none⟩ = some (.int .i64 3) ∧ w'.cell? ⟨w.heap.size, 1, none⟩ = some (.string nm) ∧ w'.cell? ⟨w.heap.size, 2, none⟩ = some (.int .i64 mx) ∧ w'.cell? ⟨w.heap.size, 3, none⟩ = some (.int .i64 a.op) ∧ w'.cell? ⟨w.heap.size, 4, none⟩ = some (.int .i64 a.n) ∧ w'.cell? ⟨w.heap.size, 5, none⟩ = some (.string a.s) ∧ w'.cell? ⟨w.heap.size, 6, none⟩ = some (.slice a1 a.args.length c1) ∧ w'.cell? ⟨w.heap.size, 7, none⟩ = some (.int .i64 b.op) ∧ w'.cell? ⟨w.heap.size, 8, none⟩ = some (.int .i64 b.n) ∧ w'.cell? ⟨w.heap.size, 9, none⟩ = some (.string b.s) ∧ w'.cell? ⟨w.heap.size, 10, none⟩ = some (.slice a2 b.args.length c2) ∧ w'.cell? ⟨w.heap.size, 11, none⟩ = some (.slice a3 bd.length c3) ∧ w'.cell? ⟨w.heap.size, 12, none⟩ = some (.slice a4 el.length c4) ∧ w'.cell? ⟨w.heap.size + 1, 3, none⟩ = some (.func (Fn.func 200) #[] #[]))
    (first | exact ⟨HBj.out.cells.k0, HBj.out.cells.k1, HBj.out.cells.k2, HBj.out.cells.k3, HBj.out.cells.k4, HBj.out.cells.k5, HBj.out.cells.k6, HBj.out.cells.k7, HBj.out.cells.k8, HBj.out.cells.k9, HBj.out.cells.k10, HBj.out.cells.k11, HBj.out.cells.k12, HTj.out⟩ | go_keep | (refine ⟨?_, ?_, ?_, ?_, ?_, ?_, ?_, ?_, ?_, ?_, ?_, ?_, ?_, ?_⟩ <;> go_simp))
    (first
      | (go_at_call 200; refine HC.out.mono ?_; rintro e w4 ⟨rfl, hW4, hF4⟩; have HW4 := Lib.hid hW4; have HF4 := Lib.hid (HF.out.trans hF4); have HBj := Lib.hid (HBx.out.fr hF4 HNe.out); have HTj := Lib.hid (HTf.out w4 hF4); clear hW4 hF4))
  go_wp2_with fail
  go_end0
  exact ⟨rfl, HW4.out, HF4.out⟩
set_option maxHeartbeats 4000000 in
set_option maxRecDepth 100000 in
theorem ostmt_4 (nm : ByteArray) (mx : Int) (a b : Ex) (bd el : List St) (d : Nat) (H : OMt 201 (.mk 4 nm mx a b bd el) d) : OMt 164 (.mk 4 nm mx a b bd el) d := by
  intro a1 c1 a2 c2 a3 c3 a4 c4 w0 N l w ht hb0 hW hl hK
  have hbx := below_2 (below_box w (stO (.mk 4 nm mx a b bd el) a1 c1 a2 c2 a3 c3 a4 c4)) (below_2 (below_box _ (.cells #[.nilFunc, .func (Fn.func 198) #[] #[], .func (Fn.func 199) #[] #[], .func (Fn.func 200) #[] #[], .func (Fn.func 201) #[] #[], .func (Fn.func 202) #[] #[], .func (Fn.func 203) #[] #[], .func (Fn.func 204) #[] #[], .func (Fn.func 205) #[] #[]] 216)) (L.below_drew _))
  have hb1 := hb0.trans (hbx.mono hb0.size)
  have hne : w.heap.size ≠ N := by have := hW.lt; omega
  have hne2 : w.heap.size + 1 ≠ N := by have := hW.lt; omega
  have HNe := Lib.hid hne
  have HBx := Lib.hid ((BoxS.new w (.mk 4 nm mx a b bd el) a1 c1 a2 c2 a3 c3 a4 c4).below (below_2 (below_box _ (.cells #[.nilFunc, .func (Fn.func 198) #[] #[], .func (Fn.func 199) #[] #[], .func (Fn.func 200) #[] #[], .func (Fn.func 201) #[] #[], .func (Fn.func 202) #[] #[], .func (Fn.func 203) #[] #[], .func (Fn.func 204) #[] #[], .func (Fn.func 205) #[] #[]] 216)) (L.below_drew _)))
  have HF := Lib.hid (Fr.of (B := w0.heap.size) (N := N) hbx)
  have HC := Lib.hid (H a1 c1 a2 c2 a3 c3 a4 c4 w0 N l _ ht hb1 (hW.later hbx) hl hK)
  have hT : ((w.alloc (stO (.mk 4 nm mx a b bd el) a1 c1 a2 c2 a3 c3 a4 c4)).alloc (.cells #[.nilFunc, .func (Fn.func 198) #[] #[], .func (Fn.func 199) #[] #[], .func (Fn.func 200) #[] #[], .func (Fn.func 201) #[] #[], .func (Fn.func 202) #[] #[], .func (Fn.func 203) #[] #[], .func (Fn.func 204) #[] #[], .func (Fn.func 205) #[] #[]] 216)).drew.heap[w.heap.size + 1]? = some (.cells #[.nilFunc, .func (Fn.func 198) #[] #[], .func (Fn.func 199) #[] #[], .func (Fn.func 200) #[] #[], .func (Fn.func 201) #[] #[], .func (Fn.func 202) #[] #[], .func (Fn.func 203) #[] #[], .func (Fn.func 204) #[] #[], .func (Fn.func 205) #[] #[]] 216 (0, 0)) := by
    have h := heap_alloc_new (w.alloc (stO (.mk 4 nm mx a b bd el) a1 c1 a2 c2 a3 c3 a4 c4)) (.cells #[.nilFunc, .func (Fn.func 198) #[] #[], .func (Fn.func 199) #[] #[], .func (Fn.func 200) #[] #[], .func (Fn.func 201) #[] #[], .func (Fn.func 202) #[] #[], .func (Fn.func 203) #[] #[], .func (Fn.func 204) #[] #[], .func (Fn.func 205) #[] #[]] 216)
    rw [show (w.alloc (stO (.mk 4 nm mx a b bd el) a1 c1 a2 c2 a3 c3 a4 c4)).heap.size = w.heap.size + 1 by simp] at h
    exact h
  have HT := Lib.hid hT
  have HTf : Hid (∀ w4, Fr w0.heap.size N ((w.alloc (stO (.mk 4 nm mx a b bd el) a1 c1 a2 c2 a3 c3 a4 c4)).alloc (.cells #[.nilFunc, .func (Fn.func 198) #[] #[], .func (Fn.func 199) #[] #[], .func (Fn.func 200) #[] #[], .func (Fn.func 201) #[] #[], .func (Fn.func 202) #[] #[], .func (Fn.func 203) #[] #[], .func (Fn.func 204) #[] #[], .func (Fn.func 205) #[] #[]] 216)).drew w4 → w4.cell? ⟨w.heap.size + 1, 4, none⟩ = some (.func (Fn.func 201) #[] #[])) := fun w4 hf => by
    have h := (hf.block (w.heap.size + 1) (Array.getElem?_eq_some_iff.1 hT).1 hne2 (Or.inr (ornot hT (by decide)))).trans hT
    rw [Lib.cell_of_heap h]; rfl
  generalize txS (.mk 4 nm mx a b bd el) d = t at HC hl ⊢
  simp only [ostC_mk, ostO_mk] at *
  clear hbx hb1 ht hK hl hW hb0 hne hne2 hT H
  go_enter Tryz.func164, Tryz.ntmps164
  go_wp2_with fail
  go_region_held3 (fun w' => w'.cell? ⟨w.heap.size, 0, none⟩ = some (.int .i64 4) ∧ w'.cell? ⟨w.heap.size, 1, none⟩ = some (.string nm) ∧ w'.cell? ⟨w.heap.size, 2, none⟩ = some (.int .i64 mx) ∧ w'.cell? ⟨w.heap.size, 3, none⟩ = some (.int .i64 a.op) ∧ w'.cell? ⟨w.heap.size, 4, none⟩ = some (.int .i64 a.n) ∧ w'.cell? ⟨w.heap.size, 5, none⟩ = some (.string a.s) ∧ w'.cell? ⟨w.heap.size, 6, none⟩ = some (.slice a1 a.args.length c1) ∧ w'.cell? ⟨w.heap.size, 7, none⟩ = some (.int .i64 b.op) ∧ w'.cell? ⟨w.heap.size, 8, none⟩ = some (.int .i64 b.n) ∧ w'.cell? ⟨w.heap.size, 9, none⟩ = some (.string b.s) ∧ w'.cell? ⟨w.heap.size, 10, none⟩ = some (.slice a2 b.args.length c2) ∧ w'.cell? ⟨w.heap.size, 11, none⟩ = some (.slice a3 bd.length c3) ∧ w'.cell? ⟨w.heap.size, 12, none⟩ = some (.slice a4 el.length c4) ∧ w'.cell? ⟨w.heap.size + 1, 4, none⟩ = some (.func (Fn.func 201) #[] #[]))
    (first | exact ⟨HBj.out.cells.k0, HBj.out.cells.k1, HBj.out.cells.k2, HBj.out.cells.k3, HBj.out.cells.k4, HBj.out.cells.k5, HBj.out.cells.k6, HBj.out.cells.k7, HBj.out.cells.k8, HBj.out.cells.k9, HBj.out.cells.k10, HBj.out.cells.k11, HBj.out.cells.k12, HTj.out⟩ | go_keep | (refine ⟨?_, ?_, ?_, ?_, ?_, ?_, ?_, ?_, ?_, ?_, ?_, ?_, ?_, ?_⟩ <;> go_simp))
    (first
      | (go_at_call 201; refine HC.out.mono ?_; rintro e w4 ⟨rfl, hW4, hF4⟩; have HW4 := Lib.hid hW4; have HF4 := Lib.hid (HF.out.trans hF4); have HBj := Lib.hid (HBx.out.fr hF4 HNe.out); have HTj := Lib.hid (HTf.out w4 hF4); clear hW4 hF4))
  go_wp2_with fail
  go_end0
  exact ⟨rfl, HW4.out, HF4.out⟩
set_option maxHeartbeats 4000000 in
set_option maxRecDepth 100000 in
theorem ostmt_5 (nm : ByteArray) (mx : Int) (a b : Ex) (bd el : List St) (d : Nat) (H : OMt 202 (.mk 5 nm mx a b bd el) d) : OMt 164 (.mk 5 nm mx a b bd el) d := by
  intro a1 c1 a2 c2 a3 c3 a4 c4 w0 N l w ht hb0 hW hl hK
  have hbx := below_2 (below_box w (stO (.mk 5 nm mx a b bd el) a1 c1 a2 c2 a3 c3 a4 c4)) (below_2 (below_box _ (.cells #[.nilFunc, .func (Fn.func 198) #[] #[], .func (Fn.func 199) #[] #[], .func (Fn.func 200) #[] #[], .func (Fn.func 201) #[] #[], .func (Fn.func 202) #[] #[], .func (Fn.func 203) #[] #[], .func (Fn.func 204) #[] #[], .func (Fn.func 205) #[] #[]] 216)) (L.below_drew _))
  have hb1 := hb0.trans (hbx.mono hb0.size)
  have hne : w.heap.size ≠ N := by have := hW.lt; omega
  have hne2 : w.heap.size + 1 ≠ N := by have := hW.lt; omega
  have HNe := Lib.hid hne
  have HBx := Lib.hid ((BoxS.new w (.mk 5 nm mx a b bd el) a1 c1 a2 c2 a3 c3 a4 c4).below (below_2 (below_box _ (.cells #[.nilFunc, .func (Fn.func 198) #[] #[], .func (Fn.func 199) #[] #[], .func (Fn.func 200) #[] #[], .func (Fn.func 201) #[] #[], .func (Fn.func 202) #[] #[], .func (Fn.func 203) #[] #[], .func (Fn.func 204) #[] #[], .func (Fn.func 205) #[] #[]] 216)) (L.below_drew _)))
  have HF := Lib.hid (Fr.of (B := w0.heap.size) (N := N) hbx)
  have HC := Lib.hid (H a1 c1 a2 c2 a3 c3 a4 c4 w0 N l _ ht hb1 (hW.later hbx) hl hK)
  have hT : ((w.alloc (stO (.mk 5 nm mx a b bd el) a1 c1 a2 c2 a3 c3 a4 c4)).alloc (.cells #[.nilFunc, .func (Fn.func 198) #[] #[], .func (Fn.func 199) #[] #[], .func (Fn.func 200) #[] #[], .func (Fn.func 201) #[] #[], .func (Fn.func 202) #[] #[], .func (Fn.func 203) #[] #[], .func (Fn.func 204) #[] #[], .func (Fn.func 205) #[] #[]] 216)).drew.heap[w.heap.size + 1]? = some (.cells #[.nilFunc, .func (Fn.func 198) #[] #[], .func (Fn.func 199) #[] #[], .func (Fn.func 200) #[] #[], .func (Fn.func 201) #[] #[], .func (Fn.func 202) #[] #[], .func (Fn.func 203) #[] #[], .func (Fn.func 204) #[] #[], .func (Fn.func 205) #[] #[]] 216 (0, 0)) := by
    have h := heap_alloc_new (w.alloc (stO (.mk 5 nm mx a b bd el) a1 c1 a2 c2 a3 c3 a4 c4)) (.cells #[.nilFunc, .func (Fn.func 198) #[] #[], .func (Fn.func 199) #[] #[], .func (Fn.func 200) #[] #[], .func (Fn.func 201) #[] #[], .func (Fn.func 202) #[] #[], .func (Fn.func 203) #[] #[], .func (Fn.func 204) #[] #[], .func (Fn.func 205) #[] #[]] 216)
    rw [show (w.alloc (stO (.mk 5 nm mx a b bd el) a1 c1 a2 c2 a3 c3 a4 c4)).heap.size = w.heap.size + 1 by simp] at h
    exact h
  have HT := Lib.hid hT
  have HTf : Hid (∀ w4, Fr w0.heap.size N ((w.alloc (stO (.mk 5 nm mx a b bd el) a1 c1 a2 c2 a3 c3 a4 c4)).alloc (.cells #[.nilFunc, .func (Fn.func 198) #[] #[], .func (Fn.func 199) #[] #[], .func (Fn.func 200) #[] #[], .func (Fn.func 201) #[] #[], .func (Fn.func 202) #[] #[], .func (Fn.func 203) #[] #[], .func (Fn.func 204) #[] #[], .func (Fn.func 205) #[] #[]] 216)).drew w4 → w4.cell? ⟨w.heap.size + 1, 5, none⟩ = some (.func (Fn.func 202) #[] #[])) := fun w4 hf => by
    have h := (hf.block (w.heap.size + 1) (Array.getElem?_eq_some_iff.1 hT).1 hne2 (Or.inr (ornot hT (by decide)))).trans hT
    rw [Lib.cell_of_heap h]; rfl
  generalize txS (.mk 5 nm mx a b bd el) d = t at HC hl ⊢
  simp only [ostC_mk, ostO_mk] at *
  clear hbx hb1 ht hK hl hW hb0 hne hne2 hT H
  go_enter Tryz.func164, Tryz.ntmps164
  go_wp2_with fail
  go_region_held3 (fun w' => w'.cell? ⟨w.heap.size, 0, none⟩ = some (.int .i64 5) ∧ w'.cell? ⟨w.heap.size, 1, none⟩ = some (.string nm) ∧ w'.cell? ⟨w.heap.size, 2, none⟩ = some (.int .i64 mx) ∧ w'.cell? ⟨w.heap.size, 3, none⟩ = some (.int .i64 a.op) ∧ w'.cell? ⟨w.heap.size, 4, none⟩ = some (.int .i64 a.n) ∧ w'.cell? ⟨w.heap.size, 5, none⟩ = some (.string a.s) ∧ w'.cell? ⟨w.heap.size, 6, none⟩ = some (.slice a1 a.args.length c1) ∧ w'.cell? ⟨w.heap.size, 7, none⟩ = some (.int .i64 b.op) ∧ w'.cell? ⟨w.heap.size, 8, none⟩ = some (.int .i64 b.n) ∧ w'.cell? ⟨w.heap.size, 9, none⟩ = some (.string b.s) ∧ w'.cell? ⟨w.heap.size, 10, none⟩ = some (.slice a2 b.args.length c2) ∧ w'.cell? ⟨w.heap.size, 11, none⟩ = some (.slice a3 bd.length c3) ∧ w'.cell? ⟨w.heap.size, 12, none⟩ = some (.slice a4 el.length c4) ∧ w'.cell? ⟨w.heap.size + 1, 5, none⟩ = some (.func (Fn.func 202) #[] #[]))
    (first | exact ⟨HBj.out.cells.k0, HBj.out.cells.k1, HBj.out.cells.k2, HBj.out.cells.k3, HBj.out.cells.k4, HBj.out.cells.k5, HBj.out.cells.k6, HBj.out.cells.k7, HBj.out.cells.k8, HBj.out.cells.k9, HBj.out.cells.k10, HBj.out.cells.k11, HBj.out.cells.k12, HTj.out⟩ | go_keep | (refine ⟨?_, ?_, ?_, ?_, ?_, ?_, ?_, ?_, ?_, ?_, ?_, ?_, ?_, ?_⟩ <;> go_simp))
    (first
      | (go_at_call 202; refine HC.out.mono ?_; rintro e w4 ⟨rfl, hW4, hF4⟩; have HW4 := Lib.hid hW4; have HF4 := Lib.hid (HF.out.trans hF4); have HBj := Lib.hid (HBx.out.fr hF4 HNe.out); have HTj := Lib.hid (HTf.out w4 hF4); clear hW4 hF4))
  go_wp2_with fail
  go_end0
  exact ⟨rfl, HW4.out, HF4.out⟩
set_option maxHeartbeats 4000000 in
set_option maxRecDepth 100000 in
theorem ostmt_6 (nm : ByteArray) (mx : Int) (a b : Ex) (bd el : List St) (d : Nat) (H : OMt 203 (.mk 6 nm mx a b bd el) d) : OMt 164 (.mk 6 nm mx a b bd el) d := by
  intro a1 c1 a2 c2 a3 c3 a4 c4 w0 N l w ht hb0 hW hl hK
  have hbx := below_2 (below_box w (stO (.mk 6 nm mx a b bd el) a1 c1 a2 c2 a3 c3 a4 c4)) (below_2 (below_box _ (.cells #[.nilFunc, .func (Fn.func 198) #[] #[], .func (Fn.func 199) #[] #[], .func (Fn.func 200) #[] #[], .func (Fn.func 201) #[] #[], .func (Fn.func 202) #[] #[], .func (Fn.func 203) #[] #[], .func (Fn.func 204) #[] #[], .func (Fn.func 205) #[] #[]] 216)) (L.below_drew _))
  have hb1 := hb0.trans (hbx.mono hb0.size)
  have hne : w.heap.size ≠ N := by have := hW.lt; omega
  have hne2 : w.heap.size + 1 ≠ N := by have := hW.lt; omega
  have HNe := Lib.hid hne
  have HBx := Lib.hid ((BoxS.new w (.mk 6 nm mx a b bd el) a1 c1 a2 c2 a3 c3 a4 c4).below (below_2 (below_box _ (.cells #[.nilFunc, .func (Fn.func 198) #[] #[], .func (Fn.func 199) #[] #[], .func (Fn.func 200) #[] #[], .func (Fn.func 201) #[] #[], .func (Fn.func 202) #[] #[], .func (Fn.func 203) #[] #[], .func (Fn.func 204) #[] #[], .func (Fn.func 205) #[] #[]] 216)) (L.below_drew _)))
  have HF := Lib.hid (Fr.of (B := w0.heap.size) (N := N) hbx)
  have HC := Lib.hid (H a1 c1 a2 c2 a3 c3 a4 c4 w0 N l _ ht hb1 (hW.later hbx) hl hK)
  have hT : ((w.alloc (stO (.mk 6 nm mx a b bd el) a1 c1 a2 c2 a3 c3 a4 c4)).alloc (.cells #[.nilFunc, .func (Fn.func 198) #[] #[], .func (Fn.func 199) #[] #[], .func (Fn.func 200) #[] #[], .func (Fn.func 201) #[] #[], .func (Fn.func 202) #[] #[], .func (Fn.func 203) #[] #[], .func (Fn.func 204) #[] #[], .func (Fn.func 205) #[] #[]] 216)).drew.heap[w.heap.size + 1]? = some (.cells #[.nilFunc, .func (Fn.func 198) #[] #[], .func (Fn.func 199) #[] #[], .func (Fn.func 200) #[] #[], .func (Fn.func 201) #[] #[], .func (Fn.func 202) #[] #[], .func (Fn.func 203) #[] #[], .func (Fn.func 204) #[] #[], .func (Fn.func 205) #[] #[]] 216 (0, 0)) := by
    have h := heap_alloc_new (w.alloc (stO (.mk 6 nm mx a b bd el) a1 c1 a2 c2 a3 c3 a4 c4)) (.cells #[.nilFunc, .func (Fn.func 198) #[] #[], .func (Fn.func 199) #[] #[], .func (Fn.func 200) #[] #[], .func (Fn.func 201) #[] #[], .func (Fn.func 202) #[] #[], .func (Fn.func 203) #[] #[], .func (Fn.func 204) #[] #[], .func (Fn.func 205) #[] #[]] 216)
    rw [show (w.alloc (stO (.mk 6 nm mx a b bd el) a1 c1 a2 c2 a3 c3 a4 c4)).heap.size = w.heap.size + 1 by simp] at h
    exact h
  have HT := Lib.hid hT
  have HTf : Hid (∀ w4, Fr w0.heap.size N ((w.alloc (stO (.mk 6 nm mx a b bd el) a1 c1 a2 c2 a3 c3 a4 c4)).alloc (.cells #[.nilFunc, .func (Fn.func 198) #[] #[], .func (Fn.func 199) #[] #[], .func (Fn.func 200) #[] #[], .func (Fn.func 201) #[] #[], .func (Fn.func 202) #[] #[], .func (Fn.func 203) #[] #[], .func (Fn.func 204) #[] #[], .func (Fn.func 205) #[] #[]] 216)).drew w4 → w4.cell? ⟨w.heap.size + 1, 6, none⟩ = some (.func (Fn.func 203) #[] #[])) := fun w4 hf => by
    have h := (hf.block (w.heap.size + 1) (Array.getElem?_eq_some_iff.1 hT).1 hne2 (Or.inr (ornot hT (by decide)))).trans hT
    rw [Lib.cell_of_heap h]; rfl
  generalize txS (.mk 6 nm mx a b bd el) d = t at HC hl ⊢
  simp only [ostC_mk, ostO_mk] at *
  clear hbx hb1 ht hK hl hW hb0 hne hne2 hT H
  go_enter Tryz.func164, Tryz.ntmps164
  go_wp2_with fail
  go_region_held3 (fun w' => w'.cell? ⟨w.heap.size, 0, none⟩ = some (.int .i64 6) ∧ w'.cell? ⟨w.heap.size, 1, none⟩ = some (.string nm) ∧ w'.cell? ⟨w.heap.size, 2, none⟩ = some (.int .i64 mx) ∧ w'.cell? ⟨w.heap.size, 3, none⟩ = some (.int .i64 a.op) ∧ w'.cell? ⟨w.heap.size, 4, none⟩ = some (.int .i64 a.n) ∧ w'.cell? ⟨w.heap.size, 5, none⟩ = some (.string a.s) ∧ w'.cell? ⟨w.heap.size, 6, none⟩ = some (.slice a1 a.args.length c1) ∧ w'.cell? ⟨w.heap.size, 7, none⟩ = some (.int .i64 b.op) ∧ w'.cell? ⟨w.heap.size, 8, none⟩ = some (.int .i64 b.n) ∧ w'.cell? ⟨w.heap.size, 9, none⟩ = some (.string b.s) ∧ w'.cell? ⟨w.heap.size, 10, none⟩ = some (.slice a2 b.args.length c2) ∧ w'.cell? ⟨w.heap.size, 11, none⟩ = some (.slice a3 bd.length c3) ∧ w'.cell? ⟨w.heap.size, 12, none⟩ = some (.slice a4 el.length c4) ∧ w'.cell? ⟨w.heap.size + 1, 6, none⟩ = some (.func (Fn.func 203) #[] #[]))
    (first | exact ⟨HBj.out.cells.k0, HBj.out.cells.k1, HBj.out.cells.k2, HBj.out.cells.k3, HBj.out.cells.k4, HBj.out.cells.k5, HBj.out.cells.k6, HBj.out.cells.k7, HBj.out.cells.k8, HBj.out.cells.k9, HBj.out.cells.k10, HBj.out.cells.k11, HBj.out.cells.k12, HTj.out⟩ | go_keep | (refine ⟨?_, ?_, ?_, ?_, ?_, ?_, ?_, ?_, ?_, ?_, ?_, ?_, ?_, ?_⟩ <;> go_simp))
    (first
      | (go_at_call 203; refine HC.out.mono ?_; rintro e w4 ⟨rfl, hW4, hF4⟩; have HW4 := Lib.hid hW4; have HF4 := Lib.hid (HF.out.trans hF4); have HBj := Lib.hid (HBx.out.fr hF4 HNe.out); have HTj := Lib.hid (HTf.out w4 hF4); clear hW4 hF4))
  go_wp2_with fail
  go_end0
  exact ⟨rfl, HW4.out, HF4.out⟩
set_option maxHeartbeats 4000000 in
set_option maxRecDepth 100000 in
theorem ostmt_7 (nm : ByteArray) (mx : Int) (a b : Ex) (bd el : List St) (d : Nat) (H : OMt 204 (.mk 7 nm mx a b bd el) d) : OMt 164 (.mk 7 nm mx a b bd el) d := by
  intro a1 c1 a2 c2 a3 c3 a4 c4 w0 N l w ht hb0 hW hl hK
  have hbx := below_2 (below_box w (stO (.mk 7 nm mx a b bd el) a1 c1 a2 c2 a3 c3 a4 c4)) (below_2 (below_box _ (.cells #[.nilFunc, .func (Fn.func 198) #[] #[], .func (Fn.func 199) #[] #[], .func (Fn.func 200) #[] #[], .func (Fn.func 201) #[] #[], .func (Fn.func 202) #[] #[], .func (Fn.func 203) #[] #[], .func (Fn.func 204) #[] #[], .func (Fn.func 205) #[] #[]] 216)) (L.below_drew _))
  have hb1 := hb0.trans (hbx.mono hb0.size)
  have hne : w.heap.size ≠ N := by have := hW.lt; omega
  have hne2 : w.heap.size + 1 ≠ N := by have := hW.lt; omega
  have HNe := Lib.hid hne
  have HBx := Lib.hid ((BoxS.new w (.mk 7 nm mx a b bd el) a1 c1 a2 c2 a3 c3 a4 c4).below (below_2 (below_box _ (.cells #[.nilFunc, .func (Fn.func 198) #[] #[], .func (Fn.func 199) #[] #[], .func (Fn.func 200) #[] #[], .func (Fn.func 201) #[] #[], .func (Fn.func 202) #[] #[], .func (Fn.func 203) #[] #[], .func (Fn.func 204) #[] #[], .func (Fn.func 205) #[] #[]] 216)) (L.below_drew _)))
  have HF := Lib.hid (Fr.of (B := w0.heap.size) (N := N) hbx)
  have HC := Lib.hid (H a1 c1 a2 c2 a3 c3 a4 c4 w0 N l _ ht hb1 (hW.later hbx) hl hK)
  have hT : ((w.alloc (stO (.mk 7 nm mx a b bd el) a1 c1 a2 c2 a3 c3 a4 c4)).alloc (.cells #[.nilFunc, .func (Fn.func 198) #[] #[], .func (Fn.func 199) #[] #[], .func (Fn.func 200) #[] #[], .func (Fn.func 201) #[] #[], .func (Fn.func 202) #[] #[], .func (Fn.func 203) #[] #[], .func (Fn.func 204) #[] #[], .func (Fn.func 205) #[] #[]] 216)).drew.heap[w.heap.size + 1]? = some (.cells #[.nilFunc, .func (Fn.func 198) #[] #[], .func (Fn.func 199) #[] #[], .func (Fn.func 200) #[] #[], .func (Fn.func 201) #[] #[], .func (Fn.func 202) #[] #[], .func (Fn.func 203) #[] #[], .func (Fn.func 204) #[] #[], .func (Fn.func 205) #[] #[]] 216 (0, 0)) := by
    have h := heap_alloc_new (w.alloc (stO (.mk 7 nm mx a b bd el) a1 c1 a2 c2 a3 c3 a4 c4)) (.cells #[.nilFunc, .func (Fn.func 198) #[] #[], .func (Fn.func 199) #[] #[], .func (Fn.func 200) #[] #[], .func (Fn.func 201) #[] #[], .func (Fn.func 202) #[] #[], .func (Fn.func 203) #[] #[], .func (Fn.func 204) #[] #[], .func (Fn.func 205) #[] #[]] 216)
    rw [show (w.alloc (stO (.mk 7 nm mx a b bd el) a1 c1 a2 c2 a3 c3 a4 c4)).heap.size = w.heap.size + 1 by simp] at h
    exact h
  have HT := Lib.hid hT
  have HTf : Hid (∀ w4, Fr w0.heap.size N ((w.alloc (stO (.mk 7 nm mx a b bd el) a1 c1 a2 c2 a3 c3 a4 c4)).alloc (.cells #[.nilFunc, .func (Fn.func 198) #[] #[], .func (Fn.func 199) #[] #[], .func (Fn.func 200) #[] #[], .func (Fn.func 201) #[] #[], .func (Fn.func 202) #[] #[], .func (Fn.func 203) #[] #[], .func (Fn.func 204) #[] #[], .func (Fn.func 205) #[] #[]] 216)).drew w4 → w4.cell? ⟨w.heap.size + 1, 7, none⟩ = some (.func (Fn.func 204) #[] #[])) := fun w4 hf => by
    have h := (hf.block (w.heap.size + 1) (Array.getElem?_eq_some_iff.1 hT).1 hne2 (Or.inr (ornot hT (by decide)))).trans hT
    rw [Lib.cell_of_heap h]; rfl
  generalize txS (.mk 7 nm mx a b bd el) d = t at HC hl ⊢
  simp only [ostC_mk, ostO_mk] at *
  clear hbx hb1 ht hK hl hW hb0 hne hne2 hT H
  go_enter Tryz.func164, Tryz.ntmps164
  go_wp2_with fail
  go_region_held3 (fun w' => w'.cell? ⟨w.heap.size, 0, none⟩ = some (.int .i64 7) ∧ w'.cell? ⟨w.heap.size, 1, none⟩ = some (.string nm) ∧ w'.cell? ⟨w.heap.size, 2, none⟩ = some (.int .i64 mx) ∧ w'.cell? ⟨w.heap.size, 3, none⟩ = some (.int .i64 a.op) ∧ w'.cell? ⟨w.heap.size, 4, none⟩ = some (.int .i64 a.n) ∧ w'.cell? ⟨w.heap.size, 5, none⟩ = some (.string a.s) ∧ w'.cell? ⟨w.heap.size, 6, none⟩ = some (.slice a1 a.args.length c1) ∧ w'.cell? ⟨w.heap.size, 7, none⟩ = some (.int .i64 b.op) ∧ w'.cell? ⟨w.heap.size, 8, none⟩ = some (.int .i64 b.n) ∧ w'.cell? ⟨w.heap.size, 9, none⟩ = some (.string b.s) ∧ w'.cell? ⟨w.heap.size, 10, none⟩ = some (.slice a2 b.args.length c2) ∧ w'.cell? ⟨w.heap.size, 11, none⟩ = some (.slice a3 bd.length c3) ∧ w'.cell? ⟨w.heap.size, 12, none⟩ = some (.slice a4 el.length c4) ∧ w'.cell? ⟨w.heap.size + 1, 7, none⟩ = some (.func (Fn.func 204) #[] #[]))
    (first | exact ⟨HBj.out.cells.k0, HBj.out.cells.k1, HBj.out.cells.k2, HBj.out.cells.k3, HBj.out.cells.k4, HBj.out.cells.k5, HBj.out.cells.k6, HBj.out.cells.k7, HBj.out.cells.k8, HBj.out.cells.k9, HBj.out.cells.k10, HBj.out.cells.k11, HBj.out.cells.k12, HTj.out⟩ | go_keep | (refine ⟨?_, ?_, ?_, ?_, ?_, ?_, ?_, ?_, ?_, ?_, ?_, ?_, ?_, ?_⟩ <;> go_simp))
    (first
      | (go_at_call 204; refine HC.out.mono ?_; rintro e w4 ⟨rfl, hW4, hF4⟩; have HW4 := Lib.hid hW4; have HF4 := Lib.hid (HF.out.trans hF4); have HBj := Lib.hid (HBx.out.fr hF4 HNe.out); have HTj := Lib.hid (HTf.out w4 hF4); clear hW4 hF4))
  go_wp2_with fail
  go_end0
  exact ⟨rfl, HW4.out, HF4.out⟩
set_option maxHeartbeats 4000000 in
set_option maxRecDepth 100000 in
theorem ostmt_8 (nm : ByteArray) (mx : Int) (a b : Ex) (bd el : List St) (d : Nat) (H : OMt 205 (.mk 8 nm mx a b bd el) d) : OMt 164 (.mk 8 nm mx a b bd el) d := by
  intro a1 c1 a2 c2 a3 c3 a4 c4 w0 N l w ht hb0 hW hl hK
  have hbx := below_2 (below_box w (stO (.mk 8 nm mx a b bd el) a1 c1 a2 c2 a3 c3 a4 c4)) (below_2 (below_box _ (.cells #[.nilFunc, .func (Fn.func 198) #[] #[], .func (Fn.func 199) #[] #[], .func (Fn.func 200) #[] #[], .func (Fn.func 201) #[] #[], .func (Fn.func 202) #[] #[], .func (Fn.func 203) #[] #[], .func (Fn.func 204) #[] #[], .func (Fn.func 205) #[] #[]] 216)) (L.below_drew _))
  have hb1 := hb0.trans (hbx.mono hb0.size)
  have hne : w.heap.size ≠ N := by have := hW.lt; omega
  have hne2 : w.heap.size + 1 ≠ N := by have := hW.lt; omega
  have HNe := Lib.hid hne
  have HBx := Lib.hid ((BoxS.new w (.mk 8 nm mx a b bd el) a1 c1 a2 c2 a3 c3 a4 c4).below (below_2 (below_box _ (.cells #[.nilFunc, .func (Fn.func 198) #[] #[], .func (Fn.func 199) #[] #[], .func (Fn.func 200) #[] #[], .func (Fn.func 201) #[] #[], .func (Fn.func 202) #[] #[], .func (Fn.func 203) #[] #[], .func (Fn.func 204) #[] #[], .func (Fn.func 205) #[] #[]] 216)) (L.below_drew _)))
  have HF := Lib.hid (Fr.of (B := w0.heap.size) (N := N) hbx)
  have HC := Lib.hid (H a1 c1 a2 c2 a3 c3 a4 c4 w0 N l _ ht hb1 (hW.later hbx) hl hK)
  have hT : ((w.alloc (stO (.mk 8 nm mx a b bd el) a1 c1 a2 c2 a3 c3 a4 c4)).alloc (.cells #[.nilFunc, .func (Fn.func 198) #[] #[], .func (Fn.func 199) #[] #[], .func (Fn.func 200) #[] #[], .func (Fn.func 201) #[] #[], .func (Fn.func 202) #[] #[], .func (Fn.func 203) #[] #[], .func (Fn.func 204) #[] #[], .func (Fn.func 205) #[] #[]] 216)).drew.heap[w.heap.size + 1]? = some (.cells #[.nilFunc, .func (Fn.func 198) #[] #[], .func (Fn.func 199) #[] #[], .func (Fn.func 200) #[] #[], .func (Fn.func 201) #[] #[], .func (Fn.func 202) #[] #[], .func (Fn.func 203) #[] #[], .func (Fn.func 204) #[] #[], .func (Fn.func 205) #[] #[]] 216 (0, 0)) := by
    have h := heap_alloc_new (w.alloc (stO (.mk 8 nm mx a b bd el) a1 c1 a2 c2 a3 c3 a4 c4)) (.cells #[.nilFunc, .func (Fn.func 198) #[] #[], .func (Fn.func 199) #[] #[], .func (Fn.func 200) #[] #[], .func (Fn.func 201) #[] #[], .func (Fn.func 202) #[] #[], .func (Fn.func 203) #[] #[], .func (Fn.func 204) #[] #[], .func (Fn.func 205) #[] #[]] 216)
    rw [show (w.alloc (stO (.mk 8 nm mx a b bd el) a1 c1 a2 c2 a3 c3 a4 c4)).heap.size = w.heap.size + 1 by simp] at h
    exact h
  have HT := Lib.hid hT
  have HTf : Hid (∀ w4, Fr w0.heap.size N ((w.alloc (stO (.mk 8 nm mx a b bd el) a1 c1 a2 c2 a3 c3 a4 c4)).alloc (.cells #[.nilFunc, .func (Fn.func 198) #[] #[], .func (Fn.func 199) #[] #[], .func (Fn.func 200) #[] #[], .func (Fn.func 201) #[] #[], .func (Fn.func 202) #[] #[], .func (Fn.func 203) #[] #[], .func (Fn.func 204) #[] #[], .func (Fn.func 205) #[] #[]] 216)).drew w4 → w4.cell? ⟨w.heap.size + 1, 8, none⟩ = some (.func (Fn.func 205) #[] #[])) := fun w4 hf => by
    have h := (hf.block (w.heap.size + 1) (Array.getElem?_eq_some_iff.1 hT).1 hne2 (Or.inr (ornot hT (by decide)))).trans hT
    rw [Lib.cell_of_heap h]; rfl
  generalize txS (.mk 8 nm mx a b bd el) d = t at HC hl ⊢
  simp only [ostC_mk, ostO_mk] at *
  clear hbx hb1 ht hK hl hW hb0 hne hne2 hT H
  go_enter Tryz.func164, Tryz.ntmps164
  go_wp2_with fail
  go_region_held3 (fun w' => w'.cell? ⟨w.heap.size, 0, none⟩ = some (.int .i64 8) ∧ w'.cell? ⟨w.heap.size, 1, none⟩ = some (.string nm) ∧ w'.cell? ⟨w.heap.size, 2, none⟩ = some (.int .i64 mx) ∧ w'.cell? ⟨w.heap.size, 3, none⟩ = some (.int .i64 a.op) ∧ w'.cell? ⟨w.heap.size, 4, none⟩ = some (.int .i64 a.n) ∧ w'.cell? ⟨w.heap.size, 5, none⟩ = some (.string a.s) ∧ w'.cell? ⟨w.heap.size, 6, none⟩ = some (.slice a1 a.args.length c1) ∧ w'.cell? ⟨w.heap.size, 7, none⟩ = some (.int .i64 b.op) ∧ w'.cell? ⟨w.heap.size, 8, none⟩ = some (.int .i64 b.n) ∧ w'.cell? ⟨w.heap.size, 9, none⟩ = some (.string b.s) ∧ w'.cell? ⟨w.heap.size, 10, none⟩ = some (.slice a2 b.args.length c2) ∧ w'.cell? ⟨w.heap.size, 11, none⟩ = some (.slice a3 bd.length c3) ∧ w'.cell? ⟨w.heap.size, 12, none⟩ = some (.slice a4 el.length c4) ∧ w'.cell? ⟨w.heap.size + 1, 8, none⟩ = some (.func (Fn.func 205) #[] #[]))
    (first | exact ⟨HBj.out.cells.k0, HBj.out.cells.k1, HBj.out.cells.k2, HBj.out.cells.k3, HBj.out.cells.k4, HBj.out.cells.k5, HBj.out.cells.k6, HBj.out.cells.k7, HBj.out.cells.k8, HBj.out.cells.k9, HBj.out.cells.k10, HBj.out.cells.k11, HBj.out.cells.k12, HTj.out⟩ | go_keep | (refine ⟨?_, ?_, ?_, ?_, ?_, ?_, ?_, ?_, ?_, ?_, ?_, ?_, ?_, ?_⟩ <;> go_simp))
    (first
      | (go_at_call 205; refine HC.out.mono ?_; rintro e w4 ⟨rfl, hW4, hF4⟩; have HW4 := Lib.hid hW4; have HF4 := Lib.hid (HF.out.trans hF4); have HBj := Lib.hid (HBx.out.fr hF4 HNe.out); have HTj := Lib.hid (HTf.out w4 hF4); clear hW4 hF4))
  go_wp2_with fail
  go_end0
  exact ⟨rfl, HW4.out, HF4.out⟩
/-- stmt of whatever valid statement -/
theorem ostmt_any : ∀ (h : Nat) (s : St) (d : Nat), d + h ≤ 100 → WS h s → okS s → OMt 164 s d := by
  intro h
  induction h with
  | zero => intro s d _ ws; cases ws
  | succ h ih =>
    intro s d hd ws hok
    have blk : ∀ l : List St, (∀ s ∈ l, WS h s) → okB l → l.length ≤ 1000000000000000 → OBk l d := fun l hl ho hz =>
      oblock_any l d (by omega) hz fun s hs => by
        obtain ⟨j, hj, rfl⟩ := List.getElem_of_mem hs
        exact ih l[j] (d + 1) (by omega) (hl _ hs) (ho.get j hj)
    have ho := okS_open hok
    cases ws with
    | dec _ nm a hn wa => exact ostmt_1 nm 0 a noE [] [] d (olet_any nm a hn wa d (by omega))
    | set _ nm a hn wa => exact ostmt_2 nm 0 a noE [] [] d (oset_any nm a hn wa d (by omega))
    | put _ a b wa wb => exact ostmt_3 none8 0 a b [] [] d (oput_any a b wa wb d (by omega))
    | del _ a wa => exact ostmt_4 none8 0 a noE [] [] d (oremove_any a wa d (by omega))
    | emit _ a wa => exact ostmt_7 none8 0 a noE [] [] d (oemit_any a wa d (by omega))
    | abort _ m h0 h1 => exact ostmt_8 none8 m noE noE [] [] d (oabort_any m h0 h1 d (by omega))
    | loop _ nm m a b bd hn h0 h1 wa wb hb => exact ostmt_6 nm m a b bd [] d (oloop_any nm m a b bd hn h0 h1 wa wb d (by omega) (blk bd hb ho.body ho.bodyLen))
    | cond _ a bd el wa hb he => exact ostmt_5 none8 0 a noE bd el d (owhen_any a bd el wa ho.elsLen d (by omega) (blk bd hb ho.body ho.bodyLen) (blk el he ho.els ho.elsLen))
end Go.Proofs.YteglaeopaocilaaGreatDoor.P
namespace Go.Proofs.YteglaeopaocilaaGreatDoor.P
open Go.RowKit
open L (Str isName prt size_len below_2 below_box ret_bool ret_int ret_string bytes_eq append_list Own8)
open A

/-- the call owns a row of strings -/
def OwnS (w : World) (B : Nat) (v : Value) (xs : List ByteArray) : Prop := w.ownsRow B 9 1 v xs.length (xs.map Value.string)
theorem infoS : (Tryz.prog.info? 9).map (fun i => (i.zero, i.size, i.bytes)) = some (some (.string ⟨#[]⟩), 1, 16) := by kernel_rfl
theorem OwnS.alloc {w : World} {B : Nat} {v : Value} {xs : List ByteArray} (h : OwnS w B v xs) (o : Obj) : OwnS (w.alloc o) B v xs := World.ownsRow.alloc h o
theorem OwnS.below {w w' : World} {B : Nat} {v : Value} {xs : List ByteArray} (h : OwnS w B v xs) (hb : Below w.heap.size w w') : OwnS w' B v xs := L.own_belowO h hb
theorem OwnS.ge {w : World} {B : Nat} {v : Value} {xs : List ByteArray} (h : OwnS w B v xs) : ∀ g, v.ownBlock = some g → B ≤ g := L.own_ge h
theorem OwnS.apart {w : World} {B : Nat} {v : Value} {xs : List ByteArray} (h : OwnS w B v xs) {k : Nat} {cs : Array Value} {t : TypeId} {f : Nat × Nat} (hk : w.heap[k]? = some (.cells cs t f)) (ht : t ≠ 9) : some k ≠ v.ownBlock := by
  intro e
  rcases h.2 with ⟨rfl, _⟩ | ⟨g, cap, cur, rfl, _, hg, _⟩
  · cases e
  · simp only [Value.ownBlock, Option.some.injEq] at e
    subst e
    rw [hk] at hg
    simp only [Option.some.injEq, Obj.cells.injEq] at hg
    exact ht hg.2.1
theorem OwnS.shape {w : World} {B : Nat} {v : Value} {xs : List ByteArray} (h : OwnS w B v xs) : ∃ p n q, v = .slice p n q := by
  rcases h.2 with ⟨rfl, _⟩ | ⟨g, cap, cur, rfl, _⟩
  · exact ⟨none, 0, 0, rfl⟩
  · exact ⟨_, _, _, rfl⟩
/-- a string appended to a row of strings, at a step of a region that draws -/
theorem step_append_str {w : World} {ops : Array Oper} {o : Oper} {a : Act} {K : Act → World → Prop} {Q : Exit → Act → World → Prop} {E : Prop} (hgd : o.guard = none) (s x : Operand)
    (ho : o.op = .call { callee := .builtin .append, args := #[s, x], argTypes := #[132, 132] })
    (base : Nat) (v : Value) (xs : List ByteArray) (hs : a.eval s = v) (t : ByteArray) (hown : OwnS w base v xs)
    (g : Nat) (hx : a.eval x = .slice (some ⟨g, 0, none⟩) 1 1) (hg : w.cell? ⟨g, 0, none⟩ = some (.string t)) (hn : xs.length ≤ 1000) (hbase : base ≤ w.heap.size)
    (h : ∀ p n q w', OwnS w' base (.slice p n q) (xs ++ [t]) → w.grownBy w' v.ownBlock → K (a.put o.dst (.slice p n q)) w') :
    if Region.wanted o (yielded ops a.tmps) = true then Oper.wp Tryz.prog o a w K Q else E := by
  obtain ⟨i0, hi, hz0, hz1, hz2⟩ := info_of infoS
  refine step_append_lies _ hgd s x 132 ho base 9 i0 _ 1 16 Tryz.underlying132 hi hz0 hz1 hz2 rfl (by decide) v xs.length (xs.map Value.string) hs hown ⟨g, 0, none⟩ 1 1 [.string t] hx rfl (fun j u hu => ?_) (by intro u hu; simp at hu; subst hu; rfl) (by decide) (by unfold maxLen; omega) (by omega) hbase _ rfl ?_
  · match j, hu with
    | 0, hu => exact hg.trans hu
  · intro g cap w' h1 h2 _ _
    refine h _ _ _ w' ?_ h2
    unfold OwnS
    rw [List.length_append, List.map_append]
    exact h1
/-- the parameters' texts -/
def parS (p : Pr) : List ByteArray := p.params.map fun q => ba (txQ q)
theorem parS_len (p : Pr) : (parS p).length = p.params.length := List.length_map _
theorem parS_snoc {p : Pr} {k : Nat} (h : k < p.params.length) : (parS p).take (k + 1) = (parS p).take k ++ [ba (txQ p.params[k])] := by
  rw [List.take_succ_eq_append_getElem (by rw [parS_len]; exact h)]
  unfold parS
  rw [List.getElem_map]
theorem txPs_tail : ∀ l : List Pm, txPs l = Lib.joinTail [44, 32] (l.map txQ)
  | [] => rfl
  | q :: r => by
    rw [txPs, txPs_tail r]
    unfold Lib.joinTail txQ
    simp
theorem join_pars (p : Pr) : Lib.join ((parS p).map (·.data.toList)) [44, 32] = txPm p.params := by
  have e : (parS p).map (·.data.toList) = p.params.map txQ := by
    unfold parS
    rw [List.map_map]
    exact List.map_congr_left fun q _ => oba_list _
  rw [e]
  cases p.params with
  | nil => rfl
  | cons q r =>
    rw [List.map_cons, Lib.join_cons, txPm, txPs_tail]
    unfold txQ
    simp
theorem ojoin_any (B : Nat) (v : Value) (xs : List ByteArray) (hx : xs.length ≤ 1000) (hl : (Lib.join (xs.map (·.data.toList)) [44, 32]).length ≤ 1000000) (w : World) (h : OwnS w B v xs) :
    Calls Tryz.prog 114 #[v, .string ⟨#[44, 32]⟩] w fun e w' => e = .returned (.string (ba (Lib.join (xs.map (·.data.toList)) [44, 32]))) ∧ Below w.heap.size w w' := by
  have hc := fun g hg => World.ownsRow.cells h (g := g) hg
  have hlt := fun g hg => (World.ownsRow.lt h g hg).2
  rcases h.2 with ⟨rfl, h0⟩ | ⟨g, cap, cur, rfl, _, _, hcap, _⟩
  · obtain rfl := List.length_eq_zero_iff.1 h0
    exact (Tryz.strings_Join_none none 0 ⟨#[44, 32]⟩ w).mono fun _ _ ⟨h1, h2⟩ => ⟨h1, h2 ▸ Below.refl _ _⟩
  · refine (Tryz.strings_Join g 0 cap xs ⟨#[44, 32]⟩ w (fun j x hj => ?_) (hlt g rfl) (by omega) hcap (by show (Lib.join _ [44, 32]).length ≤ _; omega)).mono fun _ _ ⟨h1, h2⟩ => ⟨h1, h2⟩
    have := hc g rfl j (.string x) (by rw [List.getElem?_map, hj]; rfl)
    rw [Addr.add_lit, Nat.zero_add] at this
    rw [Nat.zero_add]
    exact this
theorem oop_ne8 : 25 ≠ 5 := by decide
/-- the head of a procedure -/
def hdL (p : Pr) : Str := kProc ++ 32 :: (str p.name ++ 40 :: (txPm p.params ++ 41 :: opb))
theorem otxP_parts (p : Pr) : txP p = hdL p ++ (txB p.body 1 ++ clL 0) := by
  unfold txP hdL clL
  simp [ind]
/-- the box of a procedure at block K -/
def BoxP (w : World) (K : Nat) (p : Pr) (a1 : Option Addr) (c1 : Nat) (a2 : Option Addr) (c2 : Nat) : Prop := w.heap[K]? = some (.cells #[.string p.name, .slice a1 p.params.length c1, .slice a2 p.body.length c2] 25 (0, 0))
section
variable {w w' : World} {K : Nat} {p : Pr} {a1 : Option Addr} {c1 : Nat} {a2 : Option Addr} {c2 : Nat}
theorem BoxP.lt (h : BoxP w K p a1 c1 a2 c2) : K < w.heap.size := (Array.getElem?_eq_some_iff.1 h).1
theorem BoxP.below (h : BoxP w K p a1 c1 a2 c2) (hb : Below w.heap.size w w') : BoxP w' K p a1 c1 a2 c2 := (hb.block K h.lt).trans h
theorem BoxP.fr {B N : Nat} (h : BoxP w K p a1 c1 a2 c2) (hf : Fr B N w w') (hK : K ≠ N) : BoxP w' K p a1 c1 a2 c2 := (hf.block K h.lt hK (Or.inr (ornot h oop_ne8))).trans h
theorem BoxP.k0 (h : BoxP w K p a1 c1 a2 c2) : w.cell? ⟨K, 0, none⟩ = some (.string p.name) := by rw [Lib.cell_of_heap h]; rfl
theorem BoxP.k1 (h : BoxP w K p a1 c1 a2 c2) : w.cell? ⟨K, 1, none⟩ = some (.slice a1 p.params.length c1) := by rw [Lib.cell_of_heap h]; rfl
theorem BoxP.k2 (h : BoxP w K p a1 c1 a2 c2) : w.cell? ⟨K, 2, none⟩ = some (.slice a2 p.body.length c2) := by rw [Lib.cell_of_heap h]; rfl
end
/-- what else a row of strings that grows leaves -/
theorem grown_below {B : Nat} {W w w1 : World} {v : Value} (hb : Below B W w) (hz : B ≤ w.heap.size) (hg : w.grownBy w1 v.ownBlock) (hv : ∀ g, v.ownBlock = some g → B ≤ g) : Below B W w1 :=
  hb.grown hg hz hv
set_option maxHeartbeats 4000000 in
set_option maxRecDepth 100000 in
theorem oproc_any (p : Pr) (wp : WP p) (h6 : p.params.length ≤ 6) (hlen : (txP p).length ≤ 240200) (hok : OkP p) (a1 a2 : Option Addr) (c1 c2 : Nat) (w0 : World) (N : Nat) (l : Str) (w : World) (ht : TabT w0) (hb0 : Below w0.heap.size w0 w) (hW : Wr w w0.heap.size N l 0) (hl : l.length ≤ 900000000000) (hK : PrIn w0 p a1 a2) :
    Calls Tryz.prog 62 #[.pointer (some ⟨N, 0, none⟩), prV p a1 c1 a2 c2] w fun e w' => e = .returned (.tuple #[]) ∧ Wr w' w0.heap.size N (l ++ txP p) 0 ∧ Fr w0.heap.size N w w' := by
  have hbx := below_box w (prO p a1 c1 a2 c2)
  have hBx : BoxP (w.alloc (prO p a1 c1 a2 c2)) w.heap.size p a1 c1 a2 c2 := heap_alloc_new w _
  have hb1 := hb0.trans (hbx.mono hb0.size)
  have hN := hW.1
  have hne : w.heap.size ≠ N := by have := hW.lt; omega
  have HNe := Lib.hid hne
  have HN := Lib.hid hN
  have HB1 := Lib.hid hb1
  have HBx := Lib.hid hBx
  have HW1 := Lib.hid (hW.later hbx)
  have HF1 := Lib.hid (Fr.of (B := w0.heap.size) (N := N) hbx)
  have HKp := Lib.hid hK
  have HTb := Lib.hid ht
  have HPm := Lib.hid (fun (k : Nat) (hk : k < p.params.length) => wp.params p.params[k] (List.getElem_mem hk))
  have HSn := Lib.hid (fun (k : Nat) (hk : k < p.params.length) => parS_snoc hk)
  rw [otxP_parts] at hlen ⊢
  simp only [List.length_append] at hlen
  have hjl : (txPm p.params).length ≤ 1000000 := by unfold hdL at hlen; simp only [List.length_append, List.length_cons] at hlen; omega
  have HJ := Lib.hid (fun (B : Nat) (v : Value) (w' : World) (h : OwnS w' B v (parS p)) => ojoin_any B v (parS p) (by rw [parS_len]; omega) (by rw [join_pars]; omega) w' h)
  rw [join_pars] at HJ
  have HX := Lib.hid (oba_list (txPm p.params))
  have HBk := Lib.hid (fun t w2 hb hW2 hl2 => oblock_any p.body 0 (by decide) hok.bodyLen (fun s hs => by
      obtain ⟨j, hj, rfl⟩ := List.getElem_of_mem hs
      exact ostmt_any 12 _ 1 (by decide) (wp.body _ hs) (hok.body.get j hj)) a2 c2 w0 N t w2 ht.tab hb hW2 hl2 hK.body)
  have HT1 : Hid (ind 0 ++ (joinS [⟨#[112, 114, 111, 99, 32]⟩, p.name, ⟨#[40]⟩, ba (txPm p.params), ⟨#[41, 32, 123]⟩] ++ [10]) = hdL p) := by
    show _ = _
    unfold joinS hdL
    simp [HX.out, kProc, opb, str, ind]
  have HT3 : Hid (ind 0 ++ (joinS [⟨#[125]⟩] ++ [10]) = clL 0) := by
    show _ = _
    unfold joinS clL
    simp
  have HL1 := Lib.hid (show l.length + (hdL p).length ≤ 1000000000000 by omega)
  have HL2 := Lib.hid (show (l ++ hdL p).length + (txB p.body (0 + 1)).length ≤ 1000000000000 by rw [List.length_append, Nat.zero_add]; omega)
  have HL3 := Lib.hid (show (l ++ hdL p ++ txB p.body (0 + 1)).length + (clL 0).length ≤ 1000000000000 by rw [List.length_append, List.length_append, Nat.zero_add]; omega)
  simp only [Nat.zero_add] at HL2 HL3 HBk
  have HNL := Lib.hid (parS_len p)
  generalize hdL p = t1 at HT1 HL1 HL2 HL3 ⊢
  generalize clL 0 = t3 at HT3 HL3 ⊢
  generalize ba (txPm p.params) = T at HJ HX HT1
  generalize txB p.body 1 = t2 at HBk HL2 HL3 ⊢
  unfold prO at HW1 HF1 HB1 HBx
  unfold prV
  clear hbx hBx hb1 ht hK hlen hW hb0 hne hN wp hok hjl
  go_enter Tryz.func62, Tryz.ntmps62
  go_wp2_with fail
  go_loopw [4, 10] (fun v4 s10 wr => ∃ (k : Nat) (pp : Option Addr) (nn qq : Nat), k ≤ p.params.length ∧ s10 = .int .i64 k ∧ v4 = .slice pp nn qq ∧ Hid (OwnS wr (w.alloc (.cells #[.string p.name, .slice a1 p.params.length c1, .slice a2 p.body.length c2] 25)).heap.size (.slice pp nn qq) ((parS p).take k)) ∧ Hid (Below (w.alloc (.cells #[.string p.name, .slice a1 p.params.length c1, .slice a2 p.body.length c2] 25)).heap.size (w.alloc (.cells #[.string p.name, .slice a1 p.params.length c1, .slice a2 p.body.length c2] 25)) wr)) (fun _ s10 _ => p.params.length - (intOf s10).toNat)
  case atStart => exact ⟨0, none, 0, 0, Nat.zero_le _, rfl, rfl, World.ownsRow_nil _ _ _ _, Below.refl _ _⟩
  case round =>
    obtain ⟨k, pp, nn, qq, hk, rfl, rfl, HO, HB⟩ := hrel
    have HZr := Lib.hid HB.out.size
    have HB0 := Lib.hid (HB1.out.trans (HB.out.mono HB1.out.size))
    by_cases hlt : k < p.params.length
    · have hlx := hlt
      obtain ⟨b2, i2, rfl, hcc⟩ := (HKp.out.params.below HB0.out).open hlx
      obtain ⟨f0, f1⟩ := hcc k hlx
      obtain ⟨n1, t1', t3'⟩ := HPm.out k hlx
      have hsn := HSn.out k hlx
      have hzq : p.params[k].name.size ≤ 16 := nam_len n1
      obtain ⟨n, hn⟩ : ∃ n : Nat, p.params[k].ty = (n : Int) := ⟨p.params[k].ty.toNat, by omega⟩
      have hn1 : 1 ≤ n := by omega
      have hn3 : n ≤ 3 := by omega
      have hty := (HTb.out.below HB0.out).tys n hn1 hn3
      have hyz : (ba (tyW (n : Int))).size ≤ 4 := by rw [oba_size]; exact tyW_len _
      have hq : ba (txQ p.params[k]) = p.params[k].name ++ ⟨#[58, 32]⟩ ++ ba (tyW (n : Int)) := by
        symm
        refine oba_eq ?_
        unfold txQ
        rw [hn]
        simp only [append_list, oba_list]
        simp [str]
      rw [hq] at hsn
      rw [hn] at f1
      have HSk := Lib.hid hsn
      have hxl : ((parS p).take k).length ≤ 1000 := by rw [List.length_take, HNL.out]; omega
      have HTy := Lib.hid (fun w' (hb : Below w0.heap.size w0 w') => (HTb.out.below hb).tys n hn1 hn3)
      generalize ba (tyW (n : Int)) = Y at hty hyz HSk HTy
      generalize p.params[k].name = nm at f0 hzq HSk
      have hbq := below_2 (below_box wr (.cells #[.string nm, .int .i64 (n : Int)] 58)) (L.below_drew _)
      have hnr : some wr.heap.size ≠ (Value.slice pp nn qq).ownBlock := fun e => by
        have := (World.ownsRow.lt HO.out wr.heap.size e.symm).2
        omega
      have HNr := Lib.hid hnr
      have q0 : (wr.alloc (.cells #[.string nm, .int .i64 (n : Int)] 58)).drew.cell? ⟨wr.heap.size, 0, none⟩ = some (.string nm) := by go_simp
      have q1 : (wr.alloc (.cells #[.string nm, .int .i64 (n : Int)] 58)).drew.cell? ⟨wr.heap.size, 1, none⟩ = some (.int .i64 (n : Int)) := by go_simp
      have q2 := HTy.out _ (HB0.out.trans (hbq.mono HB0.out.size))
      have hbz := below_2 (below_2 (below_box wr (.cells #[.string nm, .int .i64 (n : Int)] 58)) ((below_box _ (.cells #[.string (nm ++ ⟨#[58, 32]⟩ ++ Y)] 9)).mono (by simp))) (L.below_drew _)
      have q3 := HTy.out _ (HB0.out.trans (hbz.mono HB0.out.size))
      have HOd := Lib.hid (HO.out.below hbz)
      have HBd := Lib.hid (HB.out.trans (hbz.mono HZr.out))
      have z0 : ((wr.alloc (.cells #[.string nm, .int .i64 (n : Int)] 58)).alloc (.cells #[.string (nm ++ ⟨#[58, 32]⟩ ++ Y)] 9)).drew.cell? ⟨wr.heap.size, 0, none⟩ = some (.string nm) := by go_simp
      have z1 : ((wr.alloc (.cells #[.string nm, .int .i64 (n : Int)] 58)).alloc (.cells #[.string (nm ++ ⟨#[58, 32]⟩ ++ Y)] 9)).drew.cell? ⟨wr.heap.size, 1, none⟩ = some (.int .i64 (n : Int)) := by go_simp
      have z4 : ((wr.alloc (.cells #[.string nm, .int .i64 (n : Int)] 58)).alloc (.cells #[.string (nm ++ ⟨#[58, 32]⟩ ++ Y)] 9)).drew.cell? ⟨wr.heap.size + 1, 0, none⟩ = some (.string (nm ++ ⟨#[58, 32]⟩ ++ Y)) := by go_simp
      have HZ0 := Lib.hid z0
      have HZ1 := Lib.hid z1
      have HZ4 := Lib.hid z4
      have hI0 : (0 : Int) ≤ (n : Int) := by omega
      have hs1 : ¬ (9223372036854775807 < nm.size + 2) := by omega
      have hs2 : ¬ (9223372036854775807 < nm.size + 2 + Y.size) := by omega
      have hI3 : (n : Int) ≤ 3 := by omega
      have hI4 : (n : Int) < 4 := by omega
      have HZq := Lib.hid hbz.size
      clear hcc n1 t1' t3' hsn hn hq hbq hbz hnr hty
      go_wp2_with fail
      go_region_held3 (fun w' => w'.cell? ⟨wr.heap.size, 0, none⟩ = some (.string nm) ∧ w'.cell? ⟨wr.heap.size, 1, none⟩ = some (.int .i64 (n : Int)) ∧ w'.cell? ⟨1, n, none⟩ = some (.string Y)) (first | exact ⟨q0, q1, q2⟩ | exact ⟨z0, z1, q3⟩ | exact ⟨r0, r1, r2⟩ | go_keep | (refine ⟨?_, ?_, ?_⟩ <;> go_simp))
        (first
          | (refine step_append_str rfl (.tmp 14) (.tmp 23) rfl _ _ _ rfl (nm ++ ⟨#[58, 32]⟩ ++ Y) HOd.out _ rfl HZ4.out hxl (Nat.le_trans HZr.out HZq.out) ?_; intro p4 n4 q4 w4 hown4 hgrow4; have HO4 := Lib.hid hown4; have HB4 := Lib.hid (grown_below HBd.out (Nat.le_trans HZr.out HZq.out) hgrow4 HOd.out.ge); have r0 := hgrow4.cell HZ0.out HNr.out; have r1 := hgrow4.cell HZ1.out HNr.out; have r2 := HTy.out _ (HB1.out.trans (HB4.out.mono HB1.out.size)); clear hown4 hgrow4))
      go_wp2_with fail
      go_roundw
      case rel => exact ⟨k + 1, p4, n4, q4, by omega, by go_num, rfl, (by rw [HSk.out]; exact HO4.out), HB4.out⟩
      case measure => simp only [intOf]; omega
    · obtain rfl : k = p.params.length := Nat.le_antisymm hk (Nat.le_of_not_lt hlt)
      have hts : (parS p).take p.params.length = parS p := List.take_of_length_le (Nat.le_of_eq HNL.out)
      rw [hts] at HO
      have hbd := L.below_drew wr
      have HBr := Lib.hid (HB.out.trans (hbd.mono HZr.out))
      have HJd := Lib.hid (HJ.out _ _ _ (HO.out.below hbd))
      have HBxr := Lib.hid (HBx.out.below HBr.out)
      have x0 := HBxr.out.k0
      clear hts hbd hlt
      go_wp2_with fail
      go_region_held3 (fun w' => w'.cell? ⟨w.heap.size, 0, none⟩ = some (.string p.name)) (first | exact HBxr.out.k0 | exact HBy.out.k0 | exact HBj.out.k0 | exact (HAl.out _) | go_keep | go_simp)
        (first
          | (go_at_call 114; refine HJd.out.mono ?_; rintro e w2 ⟨rfl, hb2⟩; have HB2 := Lib.hid (HBr.out.trans (hb2.mono HBr.out.size)); have HBy := Lib.hid (HBxr.out.below hb2); have HAl := Lib.hid (fun o => (HBy.out.below (below_box w2 o)).k0); have HC := Lib.hid (oline_to [⟨#[112, 114, 111, 99, 32]⟩, p.name, ⟨#[40]⟩, T, ⟨#[41, 32, 123]⟩] t1 5 (by omega) (by simp) (Nat.le_trans HB1.out.size HB2.out.size) (HW1.out.later HB2.out) HT1.out HL1.out); clear hb2)
          | (go_at_call 61; refine HC.out.mono ?_; rintro e w4 ⟨rfl, hW4, hF4⟩; have HW4 := Lib.hid hW4; have HF4 := Lib.hid ((HF1.out.trans (Fr.of HB2.out)).trans hF4); have HBj := Lib.hid (HBy.out.fr hF4 HNe.out); have HBw4 := Lib.hid (Fr.world (B := 0) (HB1.out.trans (HB2.out.mono HB1.out.size)) hF4 HN.out); clear hW4 hF4))
      have k2 := HBj.out.k2
      go_wp2_with fail
      refine (HBk.out _ w4 HBw4.out HW4.out HL2.out).mono ?_; rintro e w5 ⟨rfl, hW5, hF5⟩
      have HF5 := Lib.hid (HF4.out.trans hF5)
      have HBw5 := Lib.hid (Fr.world (B := 0) HBw4.out hF5 HN.out)
      have HC5 := Lib.hid (oline_to [⟨#[125]⟩] t3 1 (by omega) (by simp) HBw5.out.size hW5 HT3.out HL3.out)
      clear hW5 hF5 k2
      go_wp2_with fail
      refine HC5.out.mono ?_; rintro e w6 ⟨rfl, hW6, hF6⟩
      have HW6 := Lib.hid hW6
      have HF6 := Lib.hid (HF5.out.trans hF6)
      clear hW6 hF6
      go_wp2_with fail
      go_end0
      exact ⟨rfl, (by simp only [List.append_assoc] at HW6; exact HW6.out), HF6.out⟩
end Go.Proofs.YteglaeopaocilaaGreatDoor.P
namespace Go.Proofs.YteglaeopaocilaaGreatDoor.P
open Go.RowKit
open L (Str isName prt size_len below_2 below_box ret_bool ret_int ret_string bytes_eq append_list Own8)
open A

theorem BoxP.new (w : World) (p : Pr) (a1 : Option Addr) (c1 : Nat) (a2 : Option Addr) (c2 : Nat) : BoxP (w.alloc (.cells #[.string p.name, .slice a1 p.params.length c1, .slice a2 p.body.length c2] 25)) w.heap.size p a1 c1 a2 c2 := heap_alloc_new w _
/-- the line between two procedures -/
theorem oline_none {B N : Nat} {l : Str} (hl : l.length ≤ 900000000000) (w : World) (hB : B ≤ w.heap.size) (hW : Wr w B N l 0) :
    Calls Tryz.prog 61 #[.pointer (some ⟨N, 0, none⟩), .slice none 0 0] w fun e w' => e = .returned (.tuple #[]) ∧ Wr w' B N (l ++ [10]) 0 ∧ Fr B N w w' :=
  oline_any B N l 0 none 0 [] (by decide) (by decide) (by show l.length + 0 ≤ _; omega) w hB hW (Or.inl rfl)
theorem otx_snoc {l : List Pr} {k : Nat} (h : k < l.length) : txL (l.take (k + 1)) = (if k = 0 then [] else txL (l.take k) ++ [10]) ++ txP l[k] := by
  rw [List.take_succ_eq_append_getElem h, txL_snoc, List.length_take]
  by_cases h0 : k = 0
  · rw [if_pos (by omega), if_pos h0]; rfl
  · rw [if_neg (by omega), if_neg h0]; simp
set_option maxHeartbeats 4000000 in
set_option maxRecDepth 100000 in
theorem oprogram_any (l : List Pr) (a : Option Addr) (c : Nat) (hok : OkL l) (w : World) (ht : TabT w) (hK : Prs w a l) :
    Calls Tryz.prog 28 #[.slice a l.length c] w fun e' w' => e' = .returned (.string (ba (progT l))) ∧ Below w.heap.size w w' := by
  have HK := Lib.hid hK
  have HO := Lib.hid hok.each
  have HTb := Lib.hid ht
  have HTl := Lib.hid (fun (k : Nat) (hk : ∀ p ∈ l.take k, valE p = 0) => txL_len (l := l.take k) ⟨by rw [List.length_take]; have := hok.len; omega, fun j hj => by
    rw [List.getElem_take]
    exact hok.each j (by rw [List.length_take] at hj; omega)⟩ hk (l.take k).length)
  have hlen := hok.len
  obtain ⟨m, hm⟩ : ∃ m, l.length = m := ⟨_, rfl⟩
  have HL := Lib.hid hm
  rw [hm] at hlen ⊢
  have hW0 : Hid (Wr (w.alloc (.cells #[.slice none 0 0, .int .i64 0] 95)) w.heap.size w.heap.size [] 0) := ⟨Nat.le_refl _, _, heap_alloc_new w _, World.ownsRow_nil _ _ _ _⟩
  have HB0 := Lib.hid (below_box w (.cells #[.slice none 0 0, .int .i64 0] 95))
  clear hm hK hok ht
  go_enter Tryz.func28, Tryz.ntmps28
  go_wp2_with fail
  go_loopw [8] (fun i wr => ∃ k : Nat, k ≤ m ∧ i = .int .i64 k ∧ Hid (Wr wr w.heap.size w.heap.size (txL (l.take k)) 0) ∧ Hid (∀ p ∈ l.take k, valE p = 0) ∧ Hid (Below w.heap.size w wr)) (fun i _ => m - (intOf i).toNat)
  case atStart => exact ⟨0, Nat.zero_le _, rfl, hW0.out, (fun p hp => by rw [List.take_zero] at hp; cases hp), HB0.out⟩
  case round =>
    obtain ⟨k, hk, rfl, HW, HG, HB⟩ := hrel
    by_cases hlt : k < m
    · have hlx : k < l.length := by rw [HL.out]; exact hlt
      obtain ⟨b2, i2, rfl, hat⟩ := HK.out.open hlx
      obtain ⟨p1, q1, p2, q2, d0, d1, d2, hq1, hin⟩ := hat
      have hbl := block_lt_of_cell d0
      have e0 := (HB.out.cell hbl).trans d0
      have e1 := (HB.out.cell (by exact hbl)).trans d1
      have e2 := (HB.out.cell (by exact hbl)).trans d2
      have hop := HO.out k hlx
      have HC := Lib.hid (fun w2 hb => ovalidate_any l[k] p1 p2 q1 q2 hop hq1 w2 (hin.below hb))
      have hlW := HW.out.lt
      by_cases hv : valE l[k] = 0
      · have wp := wp_here hop hv
        have h6 := six_of hv
        have htl := txP_lenN hv wp
        have HG2 : Hid (∀ p ∈ l.take (k + 1), valE p = 0) := by
          intro p hp
          rw [List.take_succ_eq_append_getElem hlx, List.mem_append] at hp
          rcases hp with hp | hp
          · exact HG.out p hp
          · rw [List.mem_singleton] at hp; rw [hp]; exact hv
        have hl0 : (txL (l.take k)).length ≤ 260000000000 := by have := HTl.out k HG.out; rw [List.take_length] at this; exact this
        have HP := Lib.hid (fun t w2 hb hW2 hl2 => oproc_any l[k] wp h6 (by omega) hop p1 p2 q1 q2 w w.heap.size t w2 HTb.out hb hW2 hl2 hin)
        rw [hv] at HC
        have HSn := Lib.hid (otx_snoc hlx)
        have HBb := Lib.hid (below_box wr (.cells #[.string l[k].name, .slice p1 l[k].params.length q1, .slice p2 l[k].body.length q2] 25))
        have HBx := Lib.hid (BoxP.new wr l[k] p1 q1 p2 q2)
        have HWb := Lib.hid (HW.out.later HBb.out)
        have HBw := Lib.hid (HB.out.trans (HBb.out.mono HB.out.size))
        have HCb := Lib.hid (HC.out _ HBw.out)
        have hne : wr.heap.size ≠ w.heap.size := by omega
        have HNe := Lib.hid hne
        unfold prV at HCb HP
        generalize l[k] = p at e0 e1 e2 HCb HP HSn HBb HBx HWb HBw
        clear hbl d0 d1 d2 hop hin hv hlW wp h6 htl HC hne
        by_cases hk0 : k = 0
        · have bk : decide (0 < k) = false := decide_eq_false (by omega)
          have HZ := Lib.hid hk0
          clear hk0
          go_wp2_with fail
          refine HCb.out.mono ?_; rintro e w2 ⟨rfl, hb2⟩
          have HWx := Lib.hid (HWb.out.later hb2)
          have HBq := Lib.hid (HBx.out.below hb2)
          have HBv := Lib.hid (HBw.out.trans (hb2.mono HBw.out.size))
          have y0 := HBq.out.k0
          have y1 := HBq.out.k1
          have y2 := HBq.out.k2
          clear hb2 e0 e1 e2
          go_wp2_with fail
          refine (HP.out _ w2 HBv.out HWx.out (by omega)).mono ?_; rintro e w4 ⟨rfl, hW4, hF4⟩
          have HW4 := Lib.hid hW4
          have HB4 := Lib.hid (HBv.out.trans (hF4.below (Nat.le_refl _) HBv.out.size))
          clear hW4 hF4 y0 y1 y2
          go_wp2_with fail
          go_roundw
          case rel => exact ⟨k + 1, by omega, by go_num, (by rw [HSn.out, if_pos HZ.out]; have := HW4.out; rw [HZ.out] at this; exact this), HG2, HB4.out⟩
          case measure => simp only [intOf]; omega
        · have bk : decide (0 < k) = true := decide_eq_true (by omega)
          have HZ := Lib.hid hk0
          clear hk0
          go_wp2_with fail
          refine HCb.out.mono ?_; rintro e w2 ⟨rfl, hb2⟩
          have HWx := Lib.hid (HWb.out.later hb2)
          have HBq := Lib.hid (HBx.out.below hb2)
          have HBv := Lib.hid (HBw.out.trans (hb2.mono HBw.out.size))
          clear hb2 e0 e1 e2
          go_wp2_with fail
          refine (oline_none (by omega) w2 HBv.out.size HWx.out).mono ?_; rintro e w3 ⟨rfl, hW3, hF3⟩
          have HW3 := Lib.hid hW3
          have HB3 := Lib.hid (HBv.out.trans (hF3.below (Nat.le_refl _) HBv.out.size))
          have HBr := Lib.hid (HBq.out.fr hF3 HNe.out)
          have y0 := HBr.out.k0
          have y1 := HBr.out.k1
          have y2 := HBr.out.k2
          clear hW3 hF3
          go_wp2_with fail
          refine (HP.out _ w3 HB3.out HW3.out (by rw [List.length_append]; simp only [List.length_cons, List.length_nil]; omega)).mono ?_; rintro e w4 ⟨rfl, hW4, hF4⟩
          have HW4 := Lib.hid hW4
          have HB4 := Lib.hid (HB3.out.trans (hF4.below (Nat.le_refl _) HB3.out.size))
          clear hW4 hF4 y0 y1 y2
          go_wp2_with fail
          go_roundw
          case rel => exact ⟨k + 1, by omega, by go_num, (by rw [HSn.out, if_neg HZ.out]; exact HW4.out), HG2, HB4.out⟩
          case measure => simp only [intOf]; omega
      · have HV : Hid (progT l = []) := progT_bad (List.getElem_mem hlx) hv
        have HBb := Lib.hid (below_box wr (.cells #[.string l[k].name, .slice p1 l[k].params.length q1, .slice p2 l[k].body.length q2] 25))
        have HBw := Lib.hid (HB.out.trans (HBb.out.mono HB.out.size))
        have HCb := Lib.hid (HC.out _ HBw.out)
        have bv : decide (valE l[k] = 0) = false := decide_eq_false hv
        unfold prV at HCb
        generalize l[k] = p at e0 e1 e2 HCb HBb HBw hv bv
        clear hbl d0 d1 d2 hop hin hlW HC
        go_wp2_with fail
        refine HCb.out.mono ?_; rintro e w2 ⟨rfl, hb2⟩
        have HBv := Lib.hid (HBw.out.trans (hb2.mono HBw.out.size))
        clear hb2 e0 e1 e2
        go_wp2_with fail
        go_ret
        exact ⟨ret_string (by rw [HV.out]; rfl), HBv.out⟩
    · have hall : l.take k = l := List.take_of_length_le (by rw [HL.out]; omega)
      obtain ⟨v, hN, hO, c0, c1, _, _⟩ := HW.out.open
      have cv := hO.back
      have HV : Hid ((⟨(txL (l.take k)).toArray⟩ : ByteArray) = ba (progT l)) := by
        show _ = _
        rw [hall, progT_good (fun p hp => HG.out p (by rw [hall]; exact hp))]
        rfl
      clear hall hN hO c1
      go_wp2_with fail
      go_ret
      exact ⟨ret_string HV.out, HB.out⟩
end Go.Proofs.YteglaeopaocilaaGreatDoor.P
