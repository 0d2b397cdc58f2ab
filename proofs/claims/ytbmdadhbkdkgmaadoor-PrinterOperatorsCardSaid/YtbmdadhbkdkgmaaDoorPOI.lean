/-
  The program's writer of layer 9: the method stmt, whatever the statement; stmt and block of whatever valid statements: contracts.
-/
import Derived.Test.YtbmdadhbkdkgmaaDoorQC
import Derived.Laws.EntriesVeiled
namespace Go.Proofs.YtbmdadhbkdkgmaaDoor.P
open Go.RowKit
open L (Str isName prt size_len below_2 below_box ret_bool ret_int ret_string bytes_eq append_list Own8)
open A

set_option maxHeartbeats 4000000 in
set_option maxRecDepth 100000 in
theorem ostmt_1 (nm : ByteArray) (mx : Int) (a b : Ex) (bd el : List St) (d : Nat) (H : OMt 67 (.mk 1 nm mx a b bd el) d) : OMt 60 (.mk 1 nm mx a b bd el) d := by
  intro a1 c1 a2 c2 a3 c3 a4 c4 w0 N l w ht hb0 hW hl hK
  have hbx := below_2 (below_box w (stO (.mk 1 nm mx a b bd el) a1 c1 a2 c2 a3 c3 a4 c4)) (below_2 (below_box _ (.cells #[.nilFunc, .func (Fn.func 67) #[] #[], .func (Fn.func 68) #[] #[], .func (Fn.func 69) #[] #[], .func (Fn.func 70) #[] #[], .func (Fn.func 71) #[] #[], .func (Fn.func 72) #[] #[], .func (Fn.func 73) #[] #[], .func (Fn.func 74) #[] #[]] 110)) (L.below_drew _))
  have hb1 := hb0.trans (hbx.mono hb0.size)
  have hne : w.heap.size ≠ N := by have := hW.lt; omega
  have hne2 : w.heap.size + 1 ≠ N := by have := hW.lt; omega
  have HNe := Lib.hid hne
  have HBx := Lib.hid ((BoxS.new w (.mk 1 nm mx a b bd el) a1 c1 a2 c2 a3 c3 a4 c4).below (below_2 (below_box _ (.cells #[.nilFunc, .func (Fn.func 67) #[] #[], .func (Fn.func 68) #[] #[], .func (Fn.func 69) #[] #[], .func (Fn.func 70) #[] #[], .func (Fn.func 71) #[] #[], .func (Fn.func 72) #[] #[], .func (Fn.func 73) #[] #[], .func (Fn.func 74) #[] #[]] 110)) (L.below_drew _)))
  have HF := Lib.hid (Fr.of (B := w0.heap.size) (N := N) hbx)
  have HC := Lib.hid (H a1 c1 a2 c2 a3 c3 a4 c4 w0 N l _ ht hb1 (hW.later hbx) hl hK)
  have hT : ((w.alloc (stO (.mk 1 nm mx a b bd el) a1 c1 a2 c2 a3 c3 a4 c4)).alloc (.cells #[.nilFunc, .func (Fn.func 67) #[] #[], .func (Fn.func 68) #[] #[], .func (Fn.func 69) #[] #[], .func (Fn.func 70) #[] #[], .func (Fn.func 71) #[] #[], .func (Fn.func 72) #[] #[], .func (Fn.func 73) #[] #[], .func (Fn.func 74) #[] #[]] 110)).drew.heap[w.heap.size + 1]? = some (.cells #[.nilFunc, .func (Fn.func 67) #[] #[], .func (Fn.func 68) #[] #[], .func (Fn.func 69) #[] #[], .func (Fn.func 70) #[] #[], .func (Fn.func 71) #[] #[], .func (Fn.func 72) #[] #[], .func (Fn.func 73) #[] #[], .func (Fn.func 74) #[] #[]] 110 (0, 0)) := by
    have h := heap_alloc_new (w.alloc (stO (.mk 1 nm mx a b bd el) a1 c1 a2 c2 a3 c3 a4 c4)) (.cells #[.nilFunc, .func (Fn.func 67) #[] #[], .func (Fn.func 68) #[] #[], .func (Fn.func 69) #[] #[], .func (Fn.func 70) #[] #[], .func (Fn.func 71) #[] #[], .func (Fn.func 72) #[] #[], .func (Fn.func 73) #[] #[], .func (Fn.func 74) #[] #[]] 110)
    rw [show (w.alloc (stO (.mk 1 nm mx a b bd el) a1 c1 a2 c2 a3 c3 a4 c4)).heap.size = w.heap.size + 1 by simp] at h
    exact h
  have HT := Lib.hid hT
  have HTf : Hid (∀ w4, Fr w0.heap.size N ((w.alloc (stO (.mk 1 nm mx a b bd el) a1 c1 a2 c2 a3 c3 a4 c4)).alloc (.cells #[.nilFunc, .func (Fn.func 67) #[] #[], .func (Fn.func 68) #[] #[], .func (Fn.func 69) #[] #[], .func (Fn.func 70) #[] #[], .func (Fn.func 71) #[] #[], .func (Fn.func 72) #[] #[], .func (Fn.func 73) #[] #[], .func (Fn.func 74) #[] #[]] 110)).drew w4 → w4.cell? ⟨w.heap.size + 1, 1, none⟩ = some (.func (Fn.func 67) #[] #[])) := fun w4 hf => by
    have h := (hf.block (w.heap.size + 1) (Array.getElem?_eq_some_iff.1 hT).1 hne2 (Or.inr (ornot hT (by decide)))).trans hT
    rw [Lib.cell_of_heap h]; rfl
  generalize txS (.mk 1 nm mx a b bd el) d = t at HC hl ⊢
  simp only [ostC_mk, ostO_mk] at *
  clear hbx hb1 ht hK hl hW hb0 hne hne2 hT H
  go_enter Tryd.func60, Tryd.ntmps60
  go_wp2_with fail
  go_region_held3 (fun w' => w'.cell? ⟨w.heap.size, 0, none⟩ = some (.int .i64 1) ∧ w'.cell? ⟨w.heap.size, 1, none⟩ = some (.string nm) ∧ w'.cell? ⟨w.heap.size, 2, none⟩ = some (.int .i64 mx) ∧ w'.cell? ⟨w.heap.size, 3, none⟩ = some (.int .i64 a.op) ∧ w'.cell? ⟨w.heap.size, 4, none⟩ = some (.int .i64 a.n) ∧ w'.cell? ⟨w.heap.size, 5, none⟩ = some (.string a.s) ∧ w'.cell? ⟨w.heap.size, 6, none⟩ = some (.slice a1 a.args.length c1) ∧ w'.cell? ⟨w.heap.size, 7, none⟩ = some (.int .i64 b.op) ∧ w'.cell? ⟨w.heap.size, 8, none⟩ = some (.int .i64 b.n) ∧ w'.cell? ⟨w.heap.size, 9, none⟩ = some (.string b.s) ∧ w'.cell? ⟨w.heap.size, 10, none⟩ = some (.slice a2 b.args.length c2) ∧ w'.cell? ⟨w.heap.size, 11, none⟩ = some (.slice a3 bd.length c3) ∧ w'.cell? ⟨w.heap.size, 12, none⟩ = some (.slice a4 el.length c4) ∧ w'.cell? ⟨w.heap.size + 1, 1, none⟩ = some (.func (Fn.func 67) #[] #[]))
    (first | exact ⟨HBj.out.cells.k0, HBj.out.cells.k1, HBj.out.cells.k2, HBj.out.cells.k3, HBj.out.cells.k4, HBj.out.cells.k5, HBj.out.cells.k6, HBj.out.cells.k7, HBj.out.cells.k8, HBj.out.cells.k9, HBj.out.cells.k10, HBj.out.cells.k11, HBj.out.cells.k12, HTj.out⟩ | go_keep | (refine ⟨?_, ?_, ?_, ?_, ?_, ?_, ?_, ?_, ?_, ?_, ?_, ?_, ?_, ?_⟩ <;> go_simp))
    (first
      | (go_at_call 67; refine HC.out.mono ?_; rintro e w4 ⟨rfl, hW4, hF4⟩; have HW4 := Lib.hid hW4; have HF4 := Lib.hid (HF.out.trans hF4); have HBj := Lib.hid (HBx.out.fr hF4 HNe.out); have HTj := Lib.hid (HTf.out w4 hF4); clear hW4 hF4))
  go_wp2_with fail
  go_end0
  exact ⟨rfl, HW4.out, HF4.out⟩
set_option maxHeartbeats 4000000 in
set_option maxRecDepth 100000 in
theorem ostmt_2 (nm : ByteArray) (mx : Int) (a b : Ex) (bd el : List St) (d : Nat) (H : OMt 68 (.mk 2 nm mx a b bd el) d) : OMt 60 (.mk 2 nm mx a b bd el) d := by
  intro a1 c1 a2 c2 a3 c3 a4 c4 w0 N l w ht hb0 hW hl hK
  have hbx := below_2 (below_box w (stO (.mk 2 nm mx a b bd el) a1 c1 a2 c2 a3 c3 a4 c4)) (below_2 (below_box _ (.cells #[.nilFunc, .func (Fn.func 67) #[] #[], .func (Fn.func 68) #[] #[], .func (Fn.func 69) #[] #[], .func (Fn.func 70) #[] #[], .func (Fn.func 71) #[] #[], .func (Fn.func 72) #[] #[], .func (Fn.func 73) #[] #[], .func (Fn.func 74) #[] #[]] 110)) (L.below_drew _))
  have hb1 := hb0.trans (hbx.mono hb0.size)
  have hne : w.heap.size ≠ N := by have := hW.lt; omega
  have hne2 : w.heap.size + 1 ≠ N := by have := hW.lt; omega
  have HNe := Lib.hid hne
  have HBx := Lib.hid ((BoxS.new w (.mk 2 nm mx a b bd el) a1 c1 a2 c2 a3 c3 a4 c4).below (below_2 (below_box _ (.cells #[.nilFunc, .func (Fn.func 67) #[] #[], .func (Fn.func 68) #[] #[], .func (Fn.func 69) #[] #[], .func (Fn.func 70) #[] #[], .func (Fn.func 71) #[] #[], .func (Fn.func 72) #[] #[], .func (Fn.func 73) #[] #[], .func (Fn.func 74) #[] #[]] 110)) (L.below_drew _)))
  have HF := Lib.hid (Fr.of (B := w0.heap.size) (N := N) hbx)
  have HC := Lib.hid (H a1 c1 a2 c2 a3 c3 a4 c4 w0 N l _ ht hb1 (hW.later hbx) hl hK)
  have hT : ((w.alloc (stO (.mk 2 nm mx a b bd el) a1 c1 a2 c2 a3 c3 a4 c4)).alloc (.cells #[.nilFunc, .func (Fn.func 67) #[] #[], .func (Fn.func 68) #[] #[], .func (Fn.func 69) #[] #[], .func (Fn.func 70) #[] #[], .func (Fn.func 71) #[] #[], .func (Fn.func 72) #[] #[], .func (Fn.func 73) #[] #[], .func (Fn.func 74) #[] #[]] 110)).drew.heap[w.heap.size + 1]? = some (.cells #[.nilFunc, .func (Fn.func 67) #[] #[], .func (Fn.func 68) #[] #[], .func (Fn.func 69) #[] #[], .func (Fn.func 70) #[] #[], .func (Fn.func 71) #[] #[], .func (Fn.func 72) #[] #[], .func (Fn.func 73) #[] #[], .func (Fn.func 74) #[] #[]] 110 (0, 0)) := by
    have h := heap_alloc_new (w.alloc (stO (.mk 2 nm mx a b bd el) a1 c1 a2 c2 a3 c3 a4 c4)) (.cells #[.nilFunc, .func (Fn.func 67) #[] #[], .func (Fn.func 68) #[] #[], .func (Fn.func 69) #[] #[], .func (Fn.func 70) #[] #[], .func (Fn.func 71) #[] #[], .func (Fn.func 72) #[] #[], .func (Fn.func 73) #[] #[], .func (Fn.func 74) #[] #[]] 110)
    rw [show (w.alloc (stO (.mk 2 nm mx a b bd el) a1 c1 a2 c2 a3 c3 a4 c4)).heap.size = w.heap.size + 1 by simp] at h
    exact h
  have HT := Lib.hid hT
  have HTf : Hid (∀ w4, Fr w0.heap.size N ((w.alloc (stO (.mk 2 nm mx a b bd el) a1 c1 a2 c2 a3 c3 a4 c4)).alloc (.cells #[.nilFunc, .func (Fn.func 67) #[] #[], .func (Fn.func 68) #[] #[], .func (Fn.func 69) #[] #[], .func (Fn.func 70) #[] #[], .func (Fn.func 71) #[] #[], .func (Fn.func 72) #[] #[], .func (Fn.func 73) #[] #[], .func (Fn.func 74) #[] #[]] 110)).drew w4 → w4.cell? ⟨w.heap.size + 1, 2, none⟩ = some (.func (Fn.func 68) #[] #[])) := fun w4 hf => by
    have h := (hf.block (w.heap.size + 1) (Array.getElem?_eq_some_iff.1 hT).1 hne2 (Or.inr (ornot hT (by decide)))).trans hT
    rw [Lib.cell_of_heap h]; rfl
  generalize txS (.mk 2 nm mx a b bd el) d = t at HC hl ⊢
  simp only [ostC_mk, ostO_mk] at *
  clear hbx hb1 ht hK hl hW hb0 hne hne2 hT H
  go_enter Tryd.func60, Tryd.ntmps60
  go_wp2_with fail
  go_region_held3 (fun w' => w'.cell? ⟨w.heap.size, 0, none⟩ = some (.int .i64 2) ∧ w'.cell? ⟨w.heap.size, 1, none⟩ = some (.string nm) ∧ w'.cell? ⟨w.heap.size, 2, none⟩ = some (.int .i64 mx) ∧ w'.cell? ⟨w.heap.size, 3, none⟩ = some (.int .i64 a.op) ∧ w'.cell? ⟨w.heap.size, 4, none⟩ = some (.int .i64 a.n) ∧ w'.cell? ⟨w.heap.size, 5, none⟩ = some (.string a.s) ∧ w'.cell? ⟨w.heap.size, 6, none⟩ = some (.slice a1 a.args.length c1) ∧ w'.cell? ⟨w.heap.size, 7, none⟩ = some (.int .i64 b.op) ∧ w'.cell? ⟨w.heap.size, 8, none⟩ = some (.int .i64 b.n) ∧ w'.cell? ⟨w.heap.size, 9, none⟩ = some (.string b.s) ∧ w'.cell? ⟨w.heap.size, 10, none⟩ = some (.slice a2 b.args.length c2) ∧ w'.cell? ⟨w.heap.size, 11, none⟩ = some (.slice a3 bd.length c3) ∧ w'.cell? ⟨w.heap.size, 12, none⟩ = some (.slice a4 el.length c4) ∧ w'.cell? ⟨w.heap.size + 1, 2, none⟩ = some (.func (Fn.func 68) #[] #[]))
    (first | exact ⟨HBj.out.cells.k0, HBj.out.cells.k1, HBj.out.cells.k2, HBj.out.cells.k3, HBj.out.cells.k4, HBj.out.cells.k5, HBj.out.cells.k6, HBj.out.cells.k7, HBj.out.cells.k8, HBj.out.cells.k9, HBj.out.cells.k10, HBj.out.cells.k11, HBj.out.cells.k12, HTj.out⟩ | go_keep | (refine ⟨?_, ?_, ?_, ?_, ?_, ?_, ?_, ?_, ?_, ?_, ?_, ?_, ?_, ?_⟩ <;> go_simp))
    (first
      | (go_at_call 68; refine HC.out.mono ?_; rintro e w4 ⟨rfl, hW4, hF4⟩; have HW4 := Lib.hid hW4; have HF4 := Lib.hid (HF.out.trans hF4); have HBj := Lib.hid (HBx.out.fr hF4 HNe.out); have HTj := Lib.hid (HTf.out w4 hF4); clear hW4 hF4))
  go_wp2_with fail
  go_end0
  exact ⟨rfl, HW4.out, HF4.out⟩
set_option maxHeartbeats 4000000 in
set_option maxRecDepth 100000 in
theorem ostmt_3 (nm : ByteArray) (mx : Int) (a b : Ex) (bd el : List St) (d : Nat) (H : OMt 69 (.mk 3 nm mx a b bd el) d) : OMt 60 (.mk 3 nm mx a b bd el) d := by
  intro a1 c1 a2 c2 a3 c3 a4 c4 w0 N l w ht hb0 hW hl hK
  have hbx := below_2 (below_box w (stO (.mk 3 nm mx a b bd el) a1 c1 a2 c2 a3 c3 a4 c4)) (below_2 (below_box _ (.cells #[.nilFunc, .func (Fn.func 67) #[] #[], .func (Fn.func 68) #[] #[], .func (Fn.func 69) #[] #[], .func (Fn.func 70) #[] #[], .func (Fn.func 71) #[] #[], .func (Fn.func 72) #[] #[], .func (Fn.func 73) #[] #[], .func (Fn.func 74) #[] #[]] 110)) (L.below_drew _))
  have hb1 := hb0.trans (hbx.mono hb0.size)
  have hne : w.heap.size ≠ N := by have := hW.lt; omega
  have hne2 : w.heap.size + 1 ≠ N := by have := hW.lt; omega
  have HNe := Lib.hid hne
  have HBx := Lib.hid ((BoxS.new w (.mk 3 nm mx a b bd el) a1 c1 a2 c2 a3 c3 a4 c4).below (below_2 (below_box _ (.cells #[.nilFunc, .func (Fn.func 67) #[] #[], .func (Fn.func 68) #[] #[], .func (Fn.func 69) #[] #[], .func (Fn.func 70) #[] #[], .func (Fn.func 71) #[] #[], .func (Fn.func 72) #[] #[], .func (Fn.func 73) #[] #[], .func (Fn.func 74) #[] #[]] 110)) (L.below_drew _)))
  have HF := Lib.hid (Fr.of (B := w0.heap.size) (N := N) hbx)
  have HC := Lib.hid (H a1 c1 a2 c2 a3 c3 a4 c4 w0 N l _ ht hb1 (hW.later hbx) hl hK)
  have hT : ((w.alloc (stO (.mk 3 nm mx a b bd el) a1 c1 a2 c2 a3 c3 a4 c4)).alloc (.cells #[.nilFunc, .func (Fn.func 67) #[] #[], .func (Fn.func 68) #[] #[], .func (Fn.func 69) #[] #[], .func (Fn.func 70) #[] #[], .func (Fn.func 71) #[] #[], .func (Fn.func 72) #[] #[], .func (Fn.func 73) #[] #[], .func (Fn.func 74) #[] #[]] 110)).drew.heap[w.heap.size + 1]? = some (.cells #[.nilFunc, .func (Fn.func 67) #[] #[], .func (Fn.func 68) #[] #[], .func (Fn.func 69) #[] #[], .func (Fn.func 70) #[] #[], .func (Fn.func 71) #[] #[], .func (Fn.func 72) #[] #[], .func (Fn.func 73) #[] #[], .func (Fn.func 74) #[] #[]] 110 (0, 0)) := by
    have h := heap_alloc_new (w.alloc (stO (.mk 3 nm mx a b bd el) a1 c1 a2 c2 a3 c3 a4 c4)) (.cells #[.nilFunc, .func (Fn.func 67) #[] #[], .func (Fn.func 68) #[] #[], .func (Fn.func 69) #[] #[], .func (Fn.func 70) #[] #[], .func (Fn.func 71) #[] #[], .func (Fn.func 72) #[] #[], .func (Fn.func 73) #[] #[], .func (Fn.func 74) #[] #[]] 110)
    rw [show (w.alloc (stO (.mk 3 nm mx a b bd el) a1 c1 a2 c2 a3 c3 a4 c4)).heap.size = w.heap.size + 1 by simp] at h
    exact h
  have HT := Lib.hid hT
  have HTf : Hid (∀ w4, Fr w0.heap.size N ((w.alloc (stO (.mk 3 nm mx a b bd el) a1 c1 a2 c2 a3 c3 a4 c4)).alloc (.cells #[.nilFunc, .func (Fn.func 67) #[] #[], .func (Fn.func 68) #[] #[], .func (Fn.func 69) #[] #[], .func (Fn.func 70) #[] #[], .func (Fn.func 71) #[] #[], .func (Fn.func 72) #[] #[], .func (Fn.func 73) #[] #[], .func (Fn.func 74) #[] #[]] 110)).drew w4 → w4.cell? ⟨w.heap.size + 1, 3, none⟩ = some (.func (Fn.func 69) #[] #[])) := fun w4 hf => by
    have h := (hf.block (w.heap.size + 1) (Array.getElem?_eq_some_iff.1 hT).1 hne2 (Or.inr (ornot hT (by decide)))).trans hT
    rw [Lib.cell_of_heap h]; rfl
  generalize txS (.mk 3 nm mx a b bd el) d = t at HC hl ⊢
  simp only [ostC_mk, ostO_mk] at *
  clear hbx hb1 ht hK hl hW hb0 hne hne2 hT H
  go_enter Tryd.func60, Tryd.ntmps60
  go_wp2_with fail
  go_region_held3 (fun w' => w'.cell? ⟨w.heap.size, 0, none⟩ = some (.int .i64 3) ∧ w'.cell? ⟨w.heap.size, 1, none⟩ = some (.string nm) ∧ w'.cell? ⟨w.heap.size, 2, none⟩ = some (.int .i64 mx) ∧ w'.cell? ⟨w.heap.size, 3, none⟩ = some (.int .i64 a.op) ∧ w'.cell? ⟨w.heap.size, 4, none⟩ = some (.int .i64 a.n) ∧ w'.cell? ⟨w.heap.size, 5, none⟩ = some (.string a.s) ∧ w'.cell? ⟨w.heap.size, 6, none⟩ = some (.slice a1 a.args.length c1) ∧ w'.cell? ⟨w.heap.size, 7, none⟩ = some (.int .i64 b.op) ∧ w'.cell? ⟨w.heap.size, 8, none⟩ = some (.int .i64 b.n) ∧ w'.cell? ⟨w.heap.size, 9, none⟩ = some (.string b.s) ∧ w'.cell? ⟨w.heap.size, 10, none⟩ = some (.slice a2 b.args.length c2) ∧ w'.cell? ⟨w.heap.size, 11, none⟩ = some (.slice a3 bd.length c3) ∧ w'.cell? ⟨w.heap.size, 12, none⟩ = some (.slice a4 el.length c4) ∧ w'.cell? ⟨w.heap.size + 1, 3, none⟩ = some (.func (Fn.func 69) #[] #[]))
    (first | exact ⟨HBj.out.cells.k0, HBj.out.cells.k1, HBj.out.cells.k2, HBj.out.cells.k3, HBj.out.cells.k4, HBj.out.cells.k5, HBj.out.cells.k6, HBj.out.cells.k7, HBj.out.cells.k8, HBj.out.cells.k9, HBj.out.cells.k10, HBj.out.cells.k11, HBj.out.cells.k12, HTj.out⟩ | go_keep | (refine ⟨?_, ?_, ?_, ?_, ?_, ?_, ?_, ?_, ?_, ?_, ?_, ?_, ?_, ?_⟩ <;> go_simp))
    (first
      | (go_at_call 69; refine HC.out.mono ?_; rintro e w4 ⟨rfl, hW4, hF4⟩; have HW4 := Lib.hid hW4; have HF4 := Lib.hid (HF.out.trans hF4); have HBj := Lib.hid (HBx.out.fr hF4 HNe.out); have HTj := Lib.hid (HTf.out w4 hF4); clear hW4 hF4))
  go_wp2_with fail
  go_end0
  exact ⟨rfl, HW4.out, HF4.out⟩
set_option maxHeartbeats 4000000 in
set_option maxRecDepth 100000 in
theorem ostmt_4 (nm : ByteArray) (mx : Int) (a b : Ex) (bd el : List St) (d : Nat) (H : OMt 70 (.mk 4 nm mx a b bd el) d) : OMt 60 (.mk 4 nm mx a b bd el) d := by
  intro a1 c1 a2 c2 a3 c3 a4 c4 w0 N l w ht hb0 hW hl hK
  have hbx := below_2 (below_box w (stO (.mk 4 nm mx a b bd el) a1 c1 a2 c2 a3 c3 a4 c4)) (below_2 (below_box _ (.cells #[.nilFunc, .func (Fn.func 67) #[] #[], .func (Fn.func 68) #[] #[], .func (Fn.func 69) #[] #[], .func (Fn.func 70) #[] #[], .func (Fn.func 71) #[] #[], .func (Fn.func 72) #[] #[], .func (Fn.func 73) #[] #[], .func (Fn.func 74) #[] #[]] 110)) (L.below_drew _))
  have hb1 := hb0.trans (hbx.mono hb0.size)
  have hne : w.heap.size ≠ N := by have := hW.lt; omega
  have hne2 : w.heap.size + 1 ≠ N := by have := hW.lt; omega
  have HNe := Lib.hid hne
  have HBx := Lib.hid ((BoxS.new w (.mk 4 nm mx a b bd el) a1 c1 a2 c2 a3 c3 a4 c4).below (below_2 (below_box _ (.cells #[.nilFunc, .func (Fn.func 67) #[] #[], .func (Fn.func 68) #[] #[], .func (Fn.func 69) #[] #[], .func (Fn.func 70) #[] #[], .func (Fn.func 71) #[] #[], .func (Fn.func 72) #[] #[], .func (Fn.func 73) #[] #[], .func (Fn.func 74) #[] #[]] 110)) (L.below_drew _)))
  have HF := Lib.hid (Fr.of (B := w0.heap.size) (N := N) hbx)
  have HC := Lib.hid (H a1 c1 a2 c2 a3 c3 a4 c4 w0 N l _ ht hb1 (hW.later hbx) hl hK)
  have hT : ((w.alloc (stO (.mk 4 nm mx a b bd el) a1 c1 a2 c2 a3 c3 a4 c4)).alloc (.cells #[.nilFunc, .func (Fn.func 67) #[] #[], .func (Fn.func 68) #[] #[], .func (Fn.func 69) #[] #[], .func (Fn.func 70) #[] #[], .func (Fn.func 71) #[] #[], .func (Fn.func 72) #[] #[], .func (Fn.func 73) #[] #[], .func (Fn.func 74) #[] #[]] 110)).drew.heap[w.heap.size + 1]? = some (.cells #[.nilFunc, .func (Fn.func 67) #[] #[], .func (Fn.func 68) #[] #[], .func (Fn.func 69) #[] #[], .func (Fn.func 70) #[] #[], .func (Fn.func 71) #[] #[], .func (Fn.func 72) #[] #[], .func (Fn.func 73) #[] #[], .func (Fn.func 74) #[] #[]] 110 (0, 0)) := by
    have h := heap_alloc_new (w.alloc (stO (.mk 4 nm mx a b bd el) a1 c1 a2 c2 a3 c3 a4 c4)) (.cells #[.nilFunc, .func (Fn.func 67) #[] #[], .func (Fn.func 68) #[] #[], .func (Fn.func 69) #[] #[], .func (Fn.func 70) #[] #[], .func (Fn.func 71) #[] #[], .func (Fn.func 72) #[] #[], .func (Fn.func 73) #[] #[], .func (Fn.func 74) #[] #[]] 110)
    rw [show (w.alloc (stO (.mk 4 nm mx a b bd el) a1 c1 a2 c2 a3 c3 a4 c4)).heap.size = w.heap.size + 1 by simp] at h
    exact h
  have HT := Lib.hid hT
  have HTf : Hid (∀ w4, Fr w0.heap.size N ((w.alloc (stO (.mk 4 nm mx a b bd el) a1 c1 a2 c2 a3 c3 a4 c4)).alloc (.cells #[.nilFunc, .func (Fn.func 67) #[] #[], .func (Fn.func 68) #[] #[], .func (Fn.func 69) #[] #[], .func (Fn.func 70) #[] #[], .func (Fn.func 71) #[] #[], .func (Fn.func 72) #[] #[], .func (Fn.func 73) #[] #[], .func (Fn.func 74) #[] #[]] 110)).drew w4 → w4.cell? ⟨w.heap.size + 1, 4, none⟩ = some (.func (Fn.func 70) #[] #[])) := fun w4 hf => by
    have h := (hf.block (w.heap.size + 1) (Array.getElem?_eq_some_iff.1 hT).1 hne2 (Or.inr (ornot hT (by decide)))).trans hT
    rw [Lib.cell_of_heap h]; rfl
  generalize txS (.mk 4 nm mx a b bd el) d = t at HC hl ⊢
  simp only [ostC_mk, ostO_mk] at *
  clear hbx hb1 ht hK hl hW hb0 hne hne2 hT H
  go_enter Tryd.func60, Tryd.ntmps60
  go_wp2_with fail
  go_region_held3 (fun w' => w'.cell? ⟨w.heap.size, 0, none⟩ = some (.int .i64 4) ∧ w'.cell? ⟨w.heap.size, 1, none⟩ = some (.string nm) ∧ w'.cell? ⟨w.heap.size, 2, none⟩ = some (.int .i64 mx) ∧ w'.cell? ⟨w.heap.size, 3, none⟩ = some (.int .i64 a.op) ∧ w'.cell? ⟨w.heap.size, 4, none⟩ = some (.int .i64 a.n) ∧ w'.cell? ⟨w.heap.size, 5, none⟩ = some (.string a.s) ∧ w'.cell? ⟨w.heap.size, 6, none⟩ = some (.slice a1 a.args.length c1) ∧ w'.cell? ⟨w.heap.size, 7, none⟩ = some (.int .i64 b.op) ∧ w'.cell? ⟨w.heap.size, 8, none⟩ = some (.int .i64 b.n) ∧ w'.cell? ⟨w.heap.size, 9, none⟩ = some (.string b.s) ∧ w'.cell? ⟨w.heap.size, 10, none⟩ = some (.slice a2 b.args.length c2) ∧ w'.cell? ⟨w.heap.size, 11, none⟩ = some (.slice a3 bd.length c3) ∧ w'.cell? ⟨w.heap.size, 12, none⟩ = some (.slice a4 el.length c4) ∧ w'.cell? ⟨w.heap.size + 1, 4, none⟩ = some (.func (Fn.func 70) #[] #[]))
    (first | exact ⟨HBj.out.cells.k0, HBj.out.cells.k1, HBj.out.cells.k2, HBj.out.cells.k3, HBj.out.cells.k4, HBj.out.cells.k5, HBj.out.cells.k6, HBj.out.cells.k7, HBj.out.cells.k8, HBj.out.cells.k9, HBj.out.cells.k10, HBj.out.cells.k11, HBj.out.cells.k12, HTj.out⟩ | go_keep | (refine ⟨?_, ?_, ?_, ?_, ?_, ?_, ?_, ?_, ?_, ?_, ?_, ?_, ?_, ?_⟩ <;> go_simp))
    (first
      | (go_at_call 70; refine HC.out.mono ?_; rintro e w4 ⟨rfl, hW4, hF4⟩; have HW4 := Lib.hid hW4; have HF4 := Lib.hid (HF.out.trans hF4); have HBj := Lib.hid (HBx.out.fr hF4 HNe.out); have HTj := Lib.hid (HTf.out w4 hF4); clear hW4 hF4))
  go_wp2_with fail
  go_end0
  exact ⟨rfl, HW4.out, HF4.out⟩
set_option maxHeartbeats 4000000 in
set_option maxRecDepth 100000 in
theorem ostmt_5 (nm : ByteArray) (mx : Int) (a b : Ex) (bd el : List St) (d : Nat) (H : OMt 71 (.mk 5 nm mx a b bd el) d) : OMt 60 (.mk 5 nm mx a b bd el) d := by
  intro a1 c1 a2 c2 a3 c3 a4 c4 w0 N l w ht hb0 hW hl hK
  have hbx := below_2 (below_box w (stO (.mk 5 nm mx a b bd el) a1 c1 a2 c2 a3 c3 a4 c4)) (below_2 (below_box _ (.cells #[.nilFunc, .func (Fn.func 67) #[] #[], .func (Fn.func 68) #[] #[], .func (Fn.func 69) #[] #[], .func (Fn.func 70) #[] #[], .func (Fn.func 71) #[] #[], .func (Fn.func 72) #[] #[], .func (Fn.func 73) #[] #[], .func (Fn.func 74) #[] #[]] 110)) (L.below_drew _))
  have hb1 := hb0.trans (hbx.mono hb0.size)
  have hne : w.heap.size ≠ N := by have := hW.lt; omega
  have hne2 : w.heap.size + 1 ≠ N := by have := hW.lt; omega
  have HNe := Lib.hid hne
  have HBx := Lib.hid ((BoxS.new w (.mk 5 nm mx a b bd el) a1 c1 a2 c2 a3 c3 a4 c4).below (below_2 (below_box _ (.cells #[.nilFunc, .func (Fn.func 67) #[] #[], .func (Fn.func 68) #[] #[], .func (Fn.func 69) #[] #[], .func (Fn.func 70) #[] #[], .func (Fn.func 71) #[] #[], .func (Fn.func 72) #[] #[], .func (Fn.func 73) #[] #[], .func (Fn.func 74) #[] #[]] 110)) (L.below_drew _)))
  have HF := Lib.hid (Fr.of (B := w0.heap.size) (N := N) hbx)
  have HC := Lib.hid (H a1 c1 a2 c2 a3 c3 a4 c4 w0 N l _ ht hb1 (hW.later hbx) hl hK)
  have hT : ((w.alloc (stO (.mk 5 nm mx a b bd el) a1 c1 a2 c2 a3 c3 a4 c4)).alloc (.cells #[.nilFunc, .func (Fn.func 67) #[] #[], .func (Fn.func 68) #[] #[], .func (Fn.func 69) #[] #[], .func (Fn.func 70) #[] #[], .func (Fn.func 71) #[] #[], .func (Fn.func 72) #[] #[], .func (Fn.func 73) #[] #[], .func (Fn.func 74) #[] #[]] 110)).drew.heap[w.heap.size + 1]? = some (.cells #[.nilFunc, .func (Fn.func 67) #[] #[], .func (Fn.func 68) #[] #[], .func (Fn.func 69) #[] #[], .func (Fn.func 70) #[] #[], .func (Fn.func 71) #[] #[], .func (Fn.func 72) #[] #[], .func (Fn.func 73) #[] #[], .func (Fn.func 74) #[] #[]] 110 (0, 0)) := by
    have h := heap_alloc_new (w.alloc (stO (.mk 5 nm mx a b bd el) a1 c1 a2 c2 a3 c3 a4 c4)) (.cells #[.nilFunc, .func (Fn.func 67) #[] #[], .func (Fn.func 68) #[] #[], .func (Fn.func 69) #[] #[], .func (Fn.func 70) #[] #[], .func (Fn.func 71) #[] #[], .func (Fn.func 72) #[] #[], .func (Fn.func 73) #[] #[], .func (Fn.func 74) #[] #[]] 110)
    rw [show (w.alloc (stO (.mk 5 nm mx a b bd el) a1 c1 a2 c2 a3 c3 a4 c4)).heap.size = w.heap.size + 1 by simp] at h
    exact h
  have HT := Lib.hid hT
  have HTf : Hid (∀ w4, Fr w0.heap.size N ((w.alloc (stO (.mk 5 nm mx a b bd el) a1 c1 a2 c2 a3 c3 a4 c4)).alloc (.cells #[.nilFunc, .func (Fn.func 67) #[] #[], .func (Fn.func 68) #[] #[], .func (Fn.func 69) #[] #[], .func (Fn.func 70) #[] #[], .func (Fn.func 71) #[] #[], .func (Fn.func 72) #[] #[], .func (Fn.func 73) #[] #[], .func (Fn.func 74) #[] #[]] 110)).drew w4 → w4.cell? ⟨w.heap.size + 1, 5, none⟩ = some (.func (Fn.func 71) #[] #[])) := fun w4 hf => by
    have h := (hf.block (w.heap.size + 1) (Array.getElem?_eq_some_iff.1 hT).1 hne2 (Or.inr (ornot hT (by decide)))).trans hT
    rw [Lib.cell_of_heap h]; rfl
  generalize txS (.mk 5 nm mx a b bd el) d = t at HC hl ⊢
  simp only [ostC_mk, ostO_mk] at *
  clear hbx hb1 ht hK hl hW hb0 hne hne2 hT H
  go_enter Tryd.func60, Tryd.ntmps60
  go_wp2_with fail
  go_region_held3 (fun w' => w'.cell? ⟨w.heap.size, 0, none⟩ = some (.int .i64 5) ∧ w'.cell? ⟨w.heap.size, 1, none⟩ = some (.string nm) ∧ w'.cell? ⟨w.heap.size, 2, none⟩ = some (.int .i64 mx) ∧ w'.cell? ⟨w.heap.size, 3, none⟩ = some (.int .i64 a.op) ∧ w'.cell? ⟨w.heap.size, 4, none⟩ = some (.int .i64 a.n) ∧ w'.cell? ⟨w.heap.size, 5, none⟩ = some (.string a.s) ∧ w'.cell? ⟨w.heap.size, 6, none⟩ = some (.slice a1 a.args.length c1) ∧ w'.cell? ⟨w.heap.size, 7, none⟩ = some (.int .i64 b.op) ∧ w'.cell? ⟨w.heap.size, 8, none⟩ = some (.int .i64 b.n) ∧ w'.cell? ⟨w.heap.size, 9, none⟩ = some (.string b.s) ∧ w'.cell? ⟨w.heap.size, 10, none⟩ = some (.slice a2 b.args.length c2) ∧ w'.cell? ⟨w.heap.size, 11, none⟩ = some (.slice a3 bd.length c3) ∧ w'.cell? ⟨w.heap.size, 12, none⟩ = some (.slice a4 el.length c4) ∧ w'.cell? ⟨w.heap.size + 1, 5, none⟩ = some (.func (Fn.func 71) #[] #[]))
    (first | exact ⟨HBj.out.cells.k0, HBj.out.cells.k1, HBj.out.cells.k2, HBj.out.cells.k3, HBj.out.cells.k4, HBj.out.cells.k5, HBj.out.cells.k6, HBj.out.cells.k7, HBj.out.cells.k8, HBj.out.cells.k9, HBj.out.cells.k10, HBj.out.cells.k11, HBj.out.cells.k12, HTj.out⟩ | go_keep | (refine ⟨?_, ?_, ?_, ?_, ?_, ?_, ?_, ?_, ?_, ?_, ?_, ?_, ?_, ?_⟩ <;> go_simp))
    (first
      | (go_at_call 71; refine HC.out.mono ?_; rintro e w4 ⟨rfl, hW4, hF4⟩; have HW4 := Lib.hid hW4; have HF4 := Lib.hid (HF.out.trans hF4); have HBj := Lib.hid (HBx.out.fr hF4 HNe.out); have HTj := Lib.hid (HTf.out w4 hF4); clear hW4 hF4))
  go_wp2_with fail
  go_end0
  exact ⟨rfl, HW4.out, HF4.out⟩
set_option maxHeartbeats 4000000 in
set_option maxRecDepth 100000 in
theorem ostmt_6 (nm : ByteArray) (mx : Int) (a b : Ex) (bd el : List St) (d : Nat) (H : OMt 72 (.mk 6 nm mx a b bd el) d) : OMt 60 (.mk 6 nm mx a b bd el) d := by
  intro a1 c1 a2 c2 a3 c3 a4 c4 w0 N l w ht hb0 hW hl hK
  have hbx := below_2 (below_box w (stO (.mk 6 nm mx a b bd el) a1 c1 a2 c2 a3 c3 a4 c4)) (below_2 (below_box _ (.cells #[.nilFunc, .func (Fn.func 67) #[] #[], .func (Fn.func 68) #[] #[], .func (Fn.func 69) #[] #[], .func (Fn.func 70) #[] #[], .func (Fn.func 71) #[] #[], .func (Fn.func 72) #[] #[], .func (Fn.func 73) #[] #[], .func (Fn.func 74) #[] #[]] 110)) (L.below_drew _))
  have hb1 := hb0.trans (hbx.mono hb0.size)
  have hne : w.heap.size ≠ N := by have := hW.lt; omega
  have hne2 : w.heap.size + 1 ≠ N := by have := hW.lt; omega
  have HNe := Lib.hid hne
  have HBx := Lib.hid ((BoxS.new w (.mk 6 nm mx a b bd el) a1 c1 a2 c2 a3 c3 a4 c4).below (below_2 (below_box _ (.cells #[.nilFunc, .func (Fn.func 67) #[] #[], .func (Fn.func 68) #[] #[], .func (Fn.func 69) #[] #[], .func (Fn.func 70) #[] #[], .func (Fn.func 71) #[] #[], .func (Fn.func 72) #[] #[], .func (Fn.func 73) #[] #[], .func (Fn.func 74) #[] #[]] 110)) (L.below_drew _)))
  have HF := Lib.hid (Fr.of (B := w0.heap.size) (N := N) hbx)
  have HC := Lib.hid (H a1 c1 a2 c2 a3 c3 a4 c4 w0 N l _ ht hb1 (hW.later hbx) hl hK)
  have hT : ((w.alloc (stO (.mk 6 nm mx a b bd el) a1 c1 a2 c2 a3 c3 a4 c4)).alloc (.cells #[.nilFunc, .func (Fn.func 67) #[] #[], .func (Fn.func 68) #[] #[], .func (Fn.func 69) #[] #[], .func (Fn.func 70) #[] #[], .func (Fn.func 71) #[] #[], .func (Fn.func 72) #[] #[], .func (Fn.func 73) #[] #[], .func (Fn.func 74) #[] #[]] 110)).drew.heap[w.heap.size + 1]? = some (.cells #[.nilFunc, .func (Fn.func 67) #[] #[], .func (Fn.func 68) #[] #[], .func (Fn.func 69) #[] #[], .func (Fn.func 70) #[] #[], .func (Fn.func 71) #[] #[], .func (Fn.func 72) #[] #[], .func (Fn.func 73) #[] #[], .func (Fn.func 74) #[] #[]] 110 (0, 0)) := by
    have h := heap_alloc_new (w.alloc (stO (.mk 6 nm mx a b bd el) a1 c1 a2 c2 a3 c3 a4 c4)) (.cells #[.nilFunc, .func (Fn.func 67) #[] #[], .func (Fn.func 68) #[] #[], .func (Fn.func 69) #[] #[], .func (Fn.func 70) #[] #[], .func (Fn.func 71) #[] #[], .func (Fn.func 72) #[] #[], .func (Fn.func 73) #[] #[], .func (Fn.func 74) #[] #[]] 110)
    rw [show (w.alloc (stO (.mk 6 nm mx a b bd el) a1 c1 a2 c2 a3 c3 a4 c4)).heap.size = w.heap.size + 1 by simp] at h
    exact h
  have HT := Lib.hid hT
  have HTf : Hid (∀ w4, Fr w0.heap.size N ((w.alloc (stO (.mk 6 nm mx a b bd el) a1 c1 a2 c2 a3 c3 a4 c4)).alloc (.cells #[.nilFunc, .func (Fn.func 67) #[] #[], .func (Fn.func 68) #[] #[], .func (Fn.func 69) #[] #[], .func (Fn.func 70) #[] #[], .func (Fn.func 71) #[] #[], .func (Fn.func 72) #[] #[], .func (Fn.func 73) #[] #[], .func (Fn.func 74) #[] #[]] 110)).drew w4 → w4.cell? ⟨w.heap.size + 1, 6, none⟩ = some (.func (Fn.func 72) #[] #[])) := fun w4 hf => by
    have h := (hf.block (w.heap.size + 1) (Array.getElem?_eq_some_iff.1 hT).1 hne2 (Or.inr (ornot hT (by decide)))).trans hT
    rw [Lib.cell_of_heap h]; rfl
  generalize txS (.mk 6 nm mx a b bd el) d = t at HC hl ⊢
  simp only [ostC_mk, ostO_mk] at *
  clear hbx hb1 ht hK hl hW hb0 hne hne2 hT H
  go_enter Tryd.func60, Tryd.ntmps60
  go_wp2_with fail
  go_region_held3 (fun w' => w'.cell? ⟨w.heap.size, 0, none⟩ = some (.int .i64 6) ∧ w'.cell? ⟨w.heap.size, 1, none⟩ = some (.string nm) ∧ w'.cell? ⟨w.heap.size, 2, none⟩ = some (.int .i64 mx) ∧ w'.cell? ⟨w.heap.size, 3, none⟩ = some (.int .i64 a.op) ∧ w'.cell? ⟨w.heap.size, 4, none⟩ = some (.int .i64 a.n) ∧ w'.cell? ⟨w.heap.size, 5, none⟩ = some (.string a.s) ∧ w'.cell? ⟨w.heap.size, 6, none⟩ = some (.slice a1 a.args.length c1) ∧ w'.cell? ⟨w.heap.size, 7, none⟩ = some (.int .i64 b.op) ∧ w'.cell? ⟨w.heap.size, 8, none⟩ = some (.int .i64 b.n) ∧ w'.cell? ⟨w.heap.size, 9, none⟩ = some (.string b.s) ∧ w'.cell? ⟨w.heap.size, 10, none⟩ = some (.slice a2 b.args.length c2) ∧ w'.cell? ⟨w.heap.size, 11, none⟩ = some (.slice a3 bd.length c3) ∧ w'.cell? ⟨w.heap.size, 12, none⟩ = some (.slice a4 el.length c4) ∧ w'.cell? ⟨w.heap.size + 1, 6, none⟩ = some (.func (Fn.func 72) #[] #[]))
    (first | exact ⟨HBj.out.cells.k0, HBj.out.cells.k1, HBj.out.cells.k2, HBj.out.cells.k3, HBj.out.cells.k4, HBj.out.cells.k5, HBj.out.cells.k6, HBj.out.cells.k7, HBj.out.cells.k8, HBj.out.cells.k9, HBj.out.cells.k10, HBj.out.cells.k11, HBj.out.cells.k12, HTj.out⟩ | go_keep | (refine ⟨?_, ?_, ?_, ?_, ?_, ?_, ?_, ?_, ?_, ?_, ?_, ?_, ?_, ?_⟩ <;> go_simp))
    (first
      | (go_at_call 72; refine HC.out.mono ?_; rintro e w4 ⟨rfl, hW4, hF4⟩; have HW4 := Lib.hid hW4; have HF4 := Lib.hid (HF.out.trans hF4); have HBj := Lib.hid (HBx.out.fr hF4 HNe.out); have HTj := Lib.hid (HTf.out w4 hF4); clear hW4 hF4))
  go_wp2_with fail
  go_end0
  exact ⟨rfl, HW4.out, HF4.out⟩
set_option maxHeartbeats 4000000 in
set_option maxRecDepth 100000 in
theorem ostmt_7 (nm : ByteArray) (mx : Int) (a b : Ex) (bd el : List St) (d : Nat) (H : OMt 73 (.mk 7 nm mx a b bd el) d) : OMt 60 (.mk 7 nm mx a b bd el) d := by
  intro a1 c1 a2 c2 a3 c3 a4 c4 w0 N l w ht hb0 hW hl hK
  have hbx := below_2 (below_box w (stO (.mk 7 nm mx a b bd el) a1 c1 a2 c2 a3 c3 a4 c4)) (below_2 (below_box _ (.cells #[.nilFunc, .func (Fn.func 67) #[] #[], .func (Fn.func 68) #[] #[], .func (Fn.func 69) #[] #[], .func (Fn.func 70) #[] #[], .func (Fn.func 71) #[] #[], .func (Fn.func 72) #[] #[], .func (Fn.func 73) #[] #[], .func (Fn.func 74) #[] #[]] 110)) (L.below_drew _))
  have hb1 := hb0.trans (hbx.mono hb0.size)
  have hne : w.heap.size ≠ N := by have := hW.lt; omega
  have hne2 : w.heap.size + 1 ≠ N := by have := hW.lt; omega
  have HNe := Lib.hid hne
  have HBx := Lib.hid ((BoxS.new w (.mk 7 nm mx a b bd el) a1 c1 a2 c2 a3 c3 a4 c4).below (below_2 (below_box _ (.cells #[.nilFunc, .func (Fn.func 67) #[] #[], .func (Fn.func 68) #[] #[], .func (Fn.func 69) #[] #[], .func (Fn.func 70) #[] #[], .func (Fn.func 71) #[] #[], .func (Fn.func 72) #[] #[], .func (Fn.func 73) #[] #[], .func (Fn.func 74) #[] #[]] 110)) (L.below_drew _)))
  have HF := Lib.hid (Fr.of (B := w0.heap.size) (N := N) hbx)
  have HC := Lib.hid (H a1 c1 a2 c2 a3 c3 a4 c4 w0 N l _ ht hb1 (hW.later hbx) hl hK)
  have hT : ((w.alloc (stO (.mk 7 nm mx a b bd el) a1 c1 a2 c2 a3 c3 a4 c4)).alloc (.cells #[.nilFunc, .func (Fn.func 67) #[] #[], .func (Fn.func 68) #[] #[], .func (Fn.func 69) #[] #[], .func (Fn.func 70) #[] #[], .func (Fn.func 71) #[] #[], .func (Fn.func 72) #[] #[], .func (Fn.func 73) #[] #[], .func (Fn.func 74) #[] #[]] 110)).drew.heap[w.heap.size + 1]? = some (.cells #[.nilFunc, .func (Fn.func 67) #[] #[], .func (Fn.func 68) #[] #[], .func (Fn.func 69) #[] #[], .func (Fn.func 70) #[] #[], .func (Fn.func 71) #[] #[], .func (Fn.func 72) #[] #[], .func (Fn.func 73) #[] #[], .func (Fn.func 74) #[] #[]] 110 (0, 0)) := by
    have h := heap_alloc_new (w.alloc (stO (.mk 7 nm mx a b bd el) a1 c1 a2 c2 a3 c3 a4 c4)) (.cells #[.nilFunc, .func (Fn.func 67) #[] #[], .func (Fn.func 68) #[] #[], .func (Fn.func 69) #[] #[], .func (Fn.func 70) #[] #[], .func (Fn.func 71) #[] #[], .func (Fn.func 72) #[] #[], .func (Fn.func 73) #[] #[], .func (Fn.func 74) #[] #[]] 110)
    rw [show (w.alloc (stO (.mk 7 nm mx a b bd el) a1 c1 a2 c2 a3 c3 a4 c4)).heap.size = w.heap.size + 1 by simp] at h
    exact h
  have HT := Lib.hid hT
  have HTf : Hid (∀ w4, Fr w0.heap.size N ((w.alloc (stO (.mk 7 nm mx a b bd el) a1 c1 a2 c2 a3 c3 a4 c4)).alloc (.cells #[.nilFunc, .func (Fn.func 67) #[] #[], .func (Fn.func 68) #[] #[], .func (Fn.func 69) #[] #[], .func (Fn.func 70) #[] #[], .func (Fn.func 71) #[] #[], .func (Fn.func 72) #[] #[], .func (Fn.func 73) #[] #[], .func (Fn.func 74) #[] #[]] 110)).drew w4 → w4.cell? ⟨w.heap.size + 1, 7, none⟩ = some (.func (Fn.func 73) #[] #[])) := fun w4 hf => by
    have h := (hf.block (w.heap.size + 1) (Array.getElem?_eq_some_iff.1 hT).1 hne2 (Or.inr (ornot hT (by decide)))).trans hT
    rw [Lib.cell_of_heap h]; rfl
  generalize txS (.mk 7 nm mx a b bd el) d = t at HC hl ⊢
  simp only [ostC_mk, ostO_mk] at *
  clear hbx hb1 ht hK hl hW hb0 hne hne2 hT H
  go_enter Tryd.func60, Tryd.ntmps60
  go_wp2_with fail
  go_region_held3 (fun w' => w'.cell? ⟨w.heap.size, 0, none⟩ = some (.int .i64 7) ∧ w'.cell? ⟨w.heap.size, 1, none⟩ = some (.string nm) ∧ w'.cell? ⟨w.heap.size, 2, none⟩ = some (.int .i64 mx) ∧ w'.cell? ⟨w.heap.size, 3, none⟩ = some (.int .i64 a.op) ∧ w'.cell? ⟨w.heap.size, 4, none⟩ = some (.int .i64 a.n) ∧ w'.cell? ⟨w.heap.size, 5, none⟩ = some (.string a.s) ∧ w'.cell? ⟨w.heap.size, 6, none⟩ = some (.slice a1 a.args.length c1) ∧ w'.cell? ⟨w.heap.size, 7, none⟩ = some (.int .i64 b.op) ∧ w'.cell? ⟨w.heap.size, 8, none⟩ = some (.int .i64 b.n) ∧ w'.cell? ⟨w.heap.size, 9, none⟩ = some (.string b.s) ∧ w'.cell? ⟨w.heap.size, 10, none⟩ = some (.slice a2 b.args.length c2) ∧ w'.cell? ⟨w.heap.size, 11, none⟩ = some (.slice a3 bd.length c3) ∧ w'.cell? ⟨w.heap.size, 12, none⟩ = some (.slice a4 el.length c4) ∧ w'.cell? ⟨w.heap.size + 1, 7, none⟩ = some (.func (Fn.func 73) #[] #[]))
    (first | exact ⟨HBj.out.cells.k0, HBj.out.cells.k1, HBj.out.cells.k2, HBj.out.cells.k3, HBj.out.cells.k4, HBj.out.cells.k5, HBj.out.cells.k6, HBj.out.cells.k7, HBj.out.cells.k8, HBj.out.cells.k9, HBj.out.cells.k10, HBj.out.cells.k11, HBj.out.cells.k12, HTj.out⟩ | go_keep | (refine ⟨?_, ?_, ?_, ?_, ?_, ?_, ?_, ?_, ?_, ?_, ?_, ?_, ?_, ?_⟩ <;> go_simp))
    (first
      | (go_at_call 73; refine HC.out.mono ?_; rintro e w4 ⟨rfl, hW4, hF4⟩; have HW4 := Lib.hid hW4; have HF4 := Lib.hid (HF.out.trans hF4); have HBj := Lib.hid (HBx.out.fr hF4 HNe.out); have HTj := Lib.hid (HTf.out w4 hF4); clear hW4 hF4))
  go_wp2_with fail
  go_end0
  exact ⟨rfl, HW4.out, HF4.out⟩
set_option maxHeartbeats 4000000 in
set_option maxRecDepth 100000 in
theorem ostmt_8 (nm : ByteArray) (mx : Int) (a b : Ex) (bd el : List St) (d : Nat) (H : OMt 74 (.mk 8 nm mx a b bd el) d) : OMt 60 (.mk 8 nm mx a b bd el) d := by
  intro a1 c1 a2 c2 a3 c3 a4 c4 w0 N l w ht hb0 hW hl hK
  have hbx := below_2 (below_box w (stO (.mk 8 nm mx a b bd el) a1 c1 a2 c2 a3 c3 a4 c4)) (below_2 (below_box _ (.cells #[.nilFunc, .func (Fn.func 67) #[] #[], .func (Fn.func 68) #[] #[], .func (Fn.func 69) #[] #[], .func (Fn.func 70) #[] #[], .func (Fn.func 71) #[] #[], .func (Fn.func 72) #[] #[], .func (Fn.func 73) #[] #[], .func (Fn.func 74) #[] #[]] 110)) (L.below_drew _))
  have hb1 := hb0.trans (hbx.mono hb0.size)
  have hne : w.heap.size ≠ N := by have := hW.lt; omega
  have hne2 : w.heap.size + 1 ≠ N := by have := hW.lt; omega
  have HNe := Lib.hid hne
  have HBx := Lib.hid ((BoxS.new w (.mk 8 nm mx a b bd el) a1 c1 a2 c2 a3 c3 a4 c4).below (below_2 (below_box _ (.cells #[.nilFunc, .func (Fn.func 67) #[] #[], .func (Fn.func 68) #[] #[], .func (Fn.func 69) #[] #[], .func (Fn.func 70) #[] #[], .func (Fn.func 71) #[] #[], .func (Fn.func 72) #[] #[], .func (Fn.func 73) #[] #[], .func (Fn.func 74) #[] #[]] 110)) (L.below_drew _)))
  have HF := Lib.hid (Fr.of (B := w0.heap.size) (N := N) hbx)
  have HC := Lib.hid (H a1 c1 a2 c2 a3 c3 a4 c4 w0 N l _ ht hb1 (hW.later hbx) hl hK)
  have hT : ((w.alloc (stO (.mk 8 nm mx a b bd el) a1 c1 a2 c2 a3 c3 a4 c4)).alloc (.cells #[.nilFunc, .func (Fn.func 67) #[] #[], .func (Fn.func 68) #[] #[], .func (Fn.func 69) #[] #[], .func (Fn.func 70) #[] #[], .func (Fn.func 71) #[] #[], .func (Fn.func 72) #[] #[], .func (Fn.func 73) #[] #[], .func (Fn.func 74) #[] #[]] 110)).drew.heap[w.heap.size + 1]? = some (.cells #[.nilFunc, .func (Fn.func 67) #[] #[], .func (Fn.func 68) #[] #[], .func (Fn.func 69) #[] #[], .func (Fn.func 70) #[] #[], .func (Fn.func 71) #[] #[], .func (Fn.func 72) #[] #[], .func (Fn.func 73) #[] #[], .func (Fn.func 74) #[] #[]] 110 (0, 0)) := by
    have h := heap_alloc_new (w.alloc (stO (.mk 8 nm mx a b bd el) a1 c1 a2 c2 a3 c3 a4 c4)) (.cells #[.nilFunc, .func (Fn.func 67) #[] #[], .func (Fn.func 68) #[] #[], .func (Fn.func 69) #[] #[], .func (Fn.func 70) #[] #[], .func (Fn.func 71) #[] #[], .func (Fn.func 72) #[] #[], .func (Fn.func 73) #[] #[], .func (Fn.func 74) #[] #[]] 110)
    rw [show (w.alloc (stO (.mk 8 nm mx a b bd el) a1 c1 a2 c2 a3 c3 a4 c4)).heap.size = w.heap.size + 1 by simp] at h
    exact h
  have HT := Lib.hid hT
  have HTf : Hid (∀ w4, Fr w0.heap.size N ((w.alloc (stO (.mk 8 nm mx a b bd el) a1 c1 a2 c2 a3 c3 a4 c4)).alloc (.cells #[.nilFunc, .func (Fn.func 67) #[] #[], .func (Fn.func 68) #[] #[], .func (Fn.func 69) #[] #[], .func (Fn.func 70) #[] #[], .func (Fn.func 71) #[] #[], .func (Fn.func 72) #[] #[], .func (Fn.func 73) #[] #[], .func (Fn.func 74) #[] #[]] 110)).drew w4 → w4.cell? ⟨w.heap.size + 1, 8, none⟩ = some (.func (Fn.func 74) #[] #[])) := fun w4 hf => by
    have h := (hf.block (w.heap.size + 1) (Array.getElem?_eq_some_iff.1 hT).1 hne2 (Or.inr (ornot hT (by decide)))).trans hT
    rw [Lib.cell_of_heap h]; rfl
  generalize txS (.mk 8 nm mx a b bd el) d = t at HC hl ⊢
  simp only [ostC_mk, ostO_mk] at *
  clear hbx hb1 ht hK hl hW hb0 hne hne2 hT H
  go_enter Tryd.func60, Tryd.ntmps60
  go_wp2_with fail
  go_region_held3 (fun w' => w'.cell? ⟨w.heap.size, 0, none⟩ = some (.int .i64 8) ∧ w'.cell? ⟨w.heap.size, 1, none⟩ = some (.string nm) ∧ w'.cell? ⟨w.heap.size, 2, none⟩ = some (.int .i64 mx) ∧ w'.cell? ⟨w.heap.size, 3, none⟩ = some (.int .i64 a.op) ∧ w'.cell? ⟨w.heap.size, 4, none⟩ = some (.int .i64 a.n) ∧ w'.cell? ⟨w.heap.size, 5, none⟩ = some (.string a.s) ∧ w'.cell? ⟨w.heap.size, 6, none⟩ = some (.slice a1 a.args.length c1) ∧ w'.cell? ⟨w.heap.size, 7, none⟩ = some (.int .i64 b.op) ∧ w'.cell? ⟨w.heap.size, 8, none⟩ = some (.int .i64 b.n) ∧ w'.cell? ⟨w.heap.size, 9, none⟩ = some (.string b.s) ∧ w'.cell? ⟨w.heap.size, 10, none⟩ = some (.slice a2 b.args.length c2) ∧ w'.cell? ⟨w.heap.size, 11, none⟩ = some (.slice a3 bd.length c3) ∧ w'.cell? ⟨w.heap.size, 12, none⟩ = some (.slice a4 el.length c4) ∧ w'.cell? ⟨w.heap.size + 1, 8, none⟩ = some (.func (Fn.func 74) #[] #[]))
    (first | exact ⟨HBj.out.cells.k0, HBj.out.cells.k1, HBj.out.cells.k2, HBj.out.cells.k3, HBj.out.cells.k4, HBj.out.cells.k5, HBj.out.cells.k6, HBj.out.cells.k7, HBj.out.cells.k8, HBj.out.cells.k9, HBj.out.cells.k10, HBj.out.cells.k11, HBj.out.cells.k12, HTj.out⟩ | go_keep | (refine ⟨?_, ?_, ?_, ?_, ?_, ?_, ?_, ?_, ?_, ?_, ?_, ?_, ?_, ?_⟩ <;> go_simp))
    (first
      | (go_at_call 74; refine HC.out.mono ?_; rintro e w4 ⟨rfl, hW4, hF4⟩; have HW4 := Lib.hid hW4; have HF4 := Lib.hid (HF.out.trans hF4); have HBj := Lib.hid (HBx.out.fr hF4 HNe.out); have HTj := Lib.hid (HTf.out w4 hF4); clear hW4 hF4))
  go_wp2_with fail
  go_end0
  exact ⟨rfl, HW4.out, HF4.out⟩
/-- stmt of whatever valid statement -/
theorem ostmt_any : ∀ (h : Nat) (s : St) (d : Nat), d + h ≤ 100 → WS h s → okS s → OMt 60 s d := by
  intro h
  induction h with
  | zero => intro s d _ ws; cases ws
  | succ h ih =>
    intro s d hd ws hok
    have blk : ∀ l : List St, (∀ s ∈ l, WS h s) → okB l → l.length ≤ 1000000000000000 → OBk l d := fun l hl ho hz =>
      oblock_any l d (by omega) hz fun s hs => by
        obtain ⟨j, hj, rfl⟩ := List.getElem_of_mem hs
        exact ih l[j] (d + 1) (by omega) (hl _ hs) (ho.get j hj)
    have ho := okS_open hok
    cases ws with
    | dec _ nm a hn wa => exact ostmt_1 nm 0 a noE [] [] d (olet_any nm a hn wa d (by omega))
    | set _ nm a hn wa => exact ostmt_2 nm 0 a noE [] [] d (oset_any nm a hn wa d (by omega))
    | put _ a b wa wb => exact ostmt_3 none8 0 a b [] [] d (oput_any a b wa wb d (by omega))
    | del _ a wa => exact ostmt_4 none8 0 a noE [] [] d (oremove_any a wa d (by omega))
    | emit _ a wa => exact ostmt_7 none8 0 a noE [] [] d (oemit_any a wa d (by omega))
    | abort _ m h0 h1 => exact ostmt_8 none8 m noE noE [] [] d (oabort_any m h0 h1 d (by omega))
    | loop _ nm m a b bd hn h0 h1 wa wb hb => exact ostmt_6 nm m a b bd [] d (oloop_any nm m a b bd hn h0 h1 wa wb d (by omega) (blk bd hb ho.body ho.bodyLen))
    | cond _ a bd el wa hb he => exact ostmt_5 none8 0 a noE bd el d (owhen_any a bd el wa ho.elsLen d (by omega) (blk bd hb ho.body ho.bodyLen) (blk el he ho.els ho.elsLen))
end Go.Proofs.YtbmdadhbkdkgmaaDoor.P
