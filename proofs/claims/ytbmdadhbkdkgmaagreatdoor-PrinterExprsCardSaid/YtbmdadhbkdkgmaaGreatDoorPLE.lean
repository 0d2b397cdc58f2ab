/-
  The laws of layer 9: PrinterExprs: the walk.
-/
import Derived.Test.YtbmdadhbkdkgmaaGreatDoorQF
import Derived.Test.YtbmdadhbkdkgmaaGreatDoorQR
namespace Go.Proofs.YtbmdadhbkdkgmaaGreatDoor.P
open Go.RowKit
open L (Str isName prt size_len below_2 below_box ret_bool ret_int ret_string bytes_eq append_list Own8)
open A
set_option maxHeartbeats 4000000 in
set_option maxRecDepth 100000 in
theorem exprs_walk (e : Ex) (a : Option Addr) (c : Nat) (hok : okE e) (w : World) (ht : Tab w) (hK : A.Kids w a e.args) :
    Calls Tryz.prog 4 #[exV e a c] w fun e' w' => e' = .returned (.bool true) ∧ Below w.heap.size w w' := by
  have hb := below_box w (exO e a c)
  have HB := Lib.hid hb
  have HT := Lib.hid (ht.below hb)
  have HK := Lib.hid (hK.below hb)
  have H1 := Lib.hid (fun (d : Nat) (os : Array Obj) => Calls.regrown_of (d := d) (os := os) (oexpr_any e a c hok _ (HT.out.below (below_regrown _ d os)) (HK.out.below (below_regrown _ d os))))
  have H2 := Lib.hid (fun (d : Nat) (os : Array Obj) => Calls.regrown_of (d := d) (os := os) (rexpr_any e a c hok _ (HK.out.below (below_regrown _ d os))))
  have H3 := Lib.hid (fun (d : Nat) (os : Array Obj) => Calls.regrown_of (d := d) (os := os) (examples_any _ (HT.out.below (below_regrown _ d os))))
  obtain ⟨e0, e1, e2, e3⟩ := exO_cells w e a c
  have e0g := fun d os => cell_regrown e0 d os
  have e1g := fun d os => cell_regrown e1 d os
  have e2g := fun d os => cell_regrown e2 d os
  have e3g := fun d os => cell_regrown e3 d os
  generalize ba (exprT e) = T at H1 H2
  unfold exO at *
  unfold exV at *
  clear hb ht hK HT HK e0 e1 e2 e3 hok
  go_enter Tryz.func4, Tryz.ntmps4
  go_wp2_with fail
  refine wp_region_quiet_below (by kernel_rfl) (by kernel_rfl) ?_
  repeat (go_big_quiet_step (with_reducible first | exact H1.out _ _ | exact H2.out _ _ | exact H3.out _ _))
  refine wpQuiet_nil ?_
  intro w4 hw'
  obtain ⟨⟨dq, osq⟩, hw2⟩ := hw'
  have hb4 := below_now hw2
  have HB4 := Lib.hid (below_2 HB.out hb4)
  clear hw2 hb4
  go_wp2_with fail
  go_ret
  exact ⟨rfl, HB4.out⟩
end Go.Proofs.YtbmdadhbkdkgmaaGreatDoor.P
