/-
  The laws of layer 9: PrinterProcs: the walk.
-/
import Derived.Test.YtbmdadhbkdkgmaaGreatDoorQF
import Derived.Test.YtbmdadhbkdkgmaaGreatDoorQT
namespace Go.Proofs.YtbmdadhbkdkgmaaGreatDoor.P
open Go.RowKit
open L (Str isName prt size_len below_2 below_box ret_bool ret_int ret_string bytes_eq append_list Own8)
open A
set_option maxHeartbeats 4000000 in
set_option maxRecDepth 100000 in
theorem procs_walk (l : List Pr) (a : Option Addr) (c : Nat) (hok : OkL l) (w : World) (ht : Tab w) (hK : Prs w a l) :
    Calls Tryz.prog 3 #[.slice a l.length c] w fun e' w' => e' = .returned (.bool true) ∧ Below w.heap.size w w' := by
  have HK := Lib.hid hK
  have HO := Lib.hid hok.each
  have HT := Lib.hid ht
  have H1 := Lib.hid (fun w' hb => oprogram_any l a c hok w' (HT.out.below hb) (HK.out.below hb))
  have H2 := Lib.hid (fun w' hb => rprogram_any l a c hok w' (HK.out.below hb))
  have H3 := Lib.hid (fun w' hb => examples_any w' (HT.out.below hb))
  have hlen := hok.len
  obtain ⟨m, hm⟩ : ∃ m, l.length = m := ⟨_, rfl⟩
  have HL := Lib.hid hm
  rw [hm] at hlen H1 H2 ⊢
  generalize ba (progT l) = T at H1 H2
  clear hm hK hok ht
  go_enter Tryz.func3, Tryz.ntmps3
  go_wp2_with fail
  go_loopw [3] (fun i wr => ∃ k : Nat, k ≤ m ∧ i = .int .i64 k ∧ Hid (Below w.heap.size w wr)) (fun i _ => m - (intOf i).toNat)
  case atStart => exact ⟨0, Nat.zero_le _, rfl, Below.refl _ _⟩
  case round =>
    obtain ⟨k, hk, rfl, HB⟩ := hrel
    by_cases hlt : k < m
    · have hlx : k < l.length := by rw [HL.out]; exact hlt
      obtain ⟨b2, i2, rfl, hat⟩ := (HK.out.below HB.out).open hlx
      obtain ⟨p1, q1, p2, q2, e0, e1, e2, hq1, hin⟩ := hat
      have hop := HO.out k hlx
      have HI := Lib.hid hin
      have HTr := Lib.hid (HT.out.below HB.out)
      have HX := Lib.hid (fun (d : Nat) (os : Array Obj) => Calls.regrown_of (d := d) (os := os) (oproct_any l[k] hop p1 p2 q1 q2 hq1 _ (HTr.out.below (below_regrown _ d os)) (HI.out.below (below_regrown _ d os))))
      have HY := Lib.hid (fun (d : Nat) (os : Array Obj) => Calls.regrown_of (d := d) (os := os) (rproc_any l[k] p1 p2 q1 q2 hop _ (HI.out.below (below_regrown _ d os))))
      have e0g := fun d os => cell_regrown e0 d os
      have e1g := fun d os => cell_regrown e1 d os
      have e2g := fun d os => cell_regrown e2 d os
      generalize ba (procT l[k]) = U at HX HY
      unfold prV at HX HY
      generalize l[k] = p at e0g e1g e2g HX HY
      clear hin hop hq1 e0 e1 e2 HI
      go_wp2_with fail
      refine wp_region_quiet_below (by kernel_rfl) (by kernel_rfl) ?_
      repeat (go_big_quiet_step (with_reducible first | exact HX.out _ _ | exact HY.out _ _))
      refine wpQuiet_nil ?_
      intro w4 hw'
      obtain ⟨⟨dq, osq⟩, hw2⟩ := hw'
      have hb4 := below_now hw2
      have HB4 := Lib.hid (HB.out.trans (hb4.mono HB.out.size))
      clear hw2 hb4 e0g e1g e2g
      go_wp2_with fail
      go_roundw
      case rel => exact ⟨k + 1, by omega, by go_num, HB4.out⟩
      case measure => simp only [intOf]; omega
    · go_wp2_with fail
      refine (H1.out _ HB.out).mono ?_; rintro e w2 ⟨rfl, hb2⟩
      have HB2 := Lib.hid (HB.out.trans (hb2.mono HB.out.size))
      clear hb2
      go_wp2_with fail
      refine (H2.out _ HB2.out).mono ?_; rintro e w3 ⟨rfl, hb3⟩
      have HB3 := Lib.hid (HB2.out.trans (hb3.mono HB2.out.size))
      clear hb3
      go_wp2_with fail
      refine (H3.out _ HB3.out).mono ?_; rintro e w4 ⟨rfl, hb4⟩
      have HB4 := Lib.hid (HB3.out.trans (hb4.mono HB3.out.size))
      clear hb4
      go_wp2_with fail
      go_ret
      exact ⟨rfl, HB4.out⟩
end Go.Proofs.YtbmdadhbkdkgmaaGreatDoor.P
