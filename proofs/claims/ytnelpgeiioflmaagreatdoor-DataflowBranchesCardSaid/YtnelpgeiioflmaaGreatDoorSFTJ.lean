/-
  The laws of layer 14: what KeysTainted, ControlTainted and Independent return is the specification's.
-/
import Derived.Test.YtnelpgeiioflmaaGreatDoorM25
import Derived.Test.YtnelpgeiioflmaaGreatDoorRKeys
import Derived.Test.YtnelpgeiioflmaaGreatDoorSFWB
namespace Go.Proofs.YtnelpgeiioflmaaGreatDoor.F
open Go.RowKit
open L (Str isName prt size_len below_2 below_box ret_bool ret_int eql_eq bytes_eq)
open A (Ex St Pm Pr Bx PmsAt StrsAt PrIn OkP prV prO names cB SmP small GivesN GivesV walk exprs)
open Y (chk Tb)
open P (On off_of on_set wp_region_inv IS)

set_option maxHeartbeats 8000000 in
set_option maxRecDepth 100000 in
theorem lawBranches_core (hwk : Wk) (p : Pr) (a1 a2 : Option Addr) (c1 c2 : Nat) (hok : OkP p) (hc1 : p.params.length ≤ c1) (w : World) (ht : Tb w) (hK : PrIn w p a1 a2) :
    Calls Tryz.prog 4 #[prV p a1 c1 a2 c2] w fun e' w' => e' = .returned (.bool true) ∧ Below w.heap.size w w' := by
  have hb := below_box w (prO p a1 c1 a2 c2)
  have hbx := Bx.new w #[.string p.name, .slice a1 p.params.length c1, .slice a2 p.body.length c2] 25
  have HS := Lib.hid (A.rsmall_any p a1 c1 a2 c2 600 (by omega) hok _ (hK.below hb))
  have HW := Lib.hid hwk
  have HT := Lib.hid (ht.below hb)
  have HX := Lib.hid hbx
  have HK := Lib.hid (hK.below hb)
  have HB0 := Lib.hid hb
  have HSm : Hid (small p 600 = true → Sm p a1 a2 c1 c2) := fun h => sm_of (m := 600) (by omega) hok hc1 (A.small_smp h)
  have HSr : Hid (small p 600 = true → SmR p a1 a2 c1 c2) := fun h => smr_of (m := 600) (by omega) hok (A.small_smp h)
  unfold prV at HS ⊢
  unfold prO at *
  generalize small p 600 = sm at *
  clear hb hbx hok hc1 ht hK hwk
  have x0 := HX.out.cell 0
  have x1 := HX.out.cell 1
  have x2 := HX.out.cell 2
  simp only [List.getElem?_toArray, List.getElem?_cons_zero, List.getElem?_cons_succ] at x0 x1 x2
  cases sm with
  | false =>
    go_enter Tryz.func4, Tryz.ntmps4
    go_wp2_with fail
    refine HS.out.mono ?_; rintro e' w2 ⟨rfl, hb2⟩
    have HB2 := Lib.hid (below_2 HB0.out hb2)
    have HT2 := Lib.hid (HT.out.below hb2)
    clear hb2 x0 x1 x2
    go_wp2_with fail
    refine (HW.out _ HT2.out).mono ?_; rintro e' w8 ⟨rfl, hb8⟩
    have HB8 := Lib.hid (below_2 HB2.out hb8)
    clear hb8
    go_wp2_with fail
    go_ret
    exact ⟨rfl, HB8.out⟩
  | true =>
  obtain ⟨oT, oK, oC, oI, ck, nm, rT, wk, hln⟩ := HSm.out (by trivial)
  obtain ⟨rK, rC, rI⟩ := HSr.out (by trivial)
  have HOK := Lib.hid oK
  have HOC := Lib.hid oC
  have HOI := Lib.hid oI
  have HRK := Lib.hid rK
  have HRC := Lib.hid rC
  have HRI := Lib.hid rI
  clear rK rC rI HSr
  clear oT oK oC oI ck nm rT wk HSm
  unfold prV at HOK HOC HOI HRK HRC HRI
  generalize keysT p = kt at HOK HRK
  generalize ctrlT p = ct at HOC HRC
  generalize indep p = it at HOI HRI
  go_enter Tryz.func4, Tryz.ntmps4
  go_wp2_with fail
  refine HS.out.mono ?_; rintro e' w2 ⟨rfl, hb2⟩
  have HB2 := Lib.hid hb2
  clear hb2 x0 x1 x2
  go_upto_region 3 with fail
  refine wp_region_inv rfl (fun l a w' => ∃ v0 v1 v2 v3 v4 v5 v6 v7 v8 v9 v10 v11 v12 v13 v14 v15 v16 v17 v18 v19 v20 v21 v22 : Value, a = { tmps := #[Value.agg #[Value.string p.name, Value.slice a1 p.params.length c1, Value.slice a2 p.body.length c2], Value.pointer (some { block := w.heap.size, off := 0 }), v22, Value.agg #[Value.string p.name, Value.slice a1 p.params.length c1, Value.slice a2 p.body.length c2], Value.bool true, Value.bool false, undef, v0, v1, v2, v3, v4, v5, v6, v7, v8, v9, v10, v11, v12, v13, v14, v15, v16, v17, v18, v19, v20, v21], defers := [] } ∧ IS (FP [.eq (.agg #[.string p.name, .slice a1 p.params.length c1, .slice a2 p.body.length c2]), .eq (.bool kt), .eq (.agg #[.string p.name, .slice a1 p.params.length c1, .slice a2 p.body.length c2]), .eq (.bool kt), .eq (.bool true), .eq (.bool true), .eq (.agg #[.string p.name, .slice a1 p.params.length c1, .slice a2 p.body.length c2]), .eq (.bool ct), .eq (.agg #[.string p.name, .slice a1 p.params.length c1, .slice a2 p.body.length c2]), .eq (.bool ct), .eq (.bool true), .eq (.bool true), .eq (.bool true), .eq (.agg #[.string p.name, .slice a1 p.params.length c1, .slice a2 p.body.length c2]), .eq (.bool it), .eq (.agg #[.string p.name, .slice a1 p.params.length c1, .slice a2 p.body.length c2]), .eq (.bool it), .eq (.bool true), .eq (.bool true), .eq (.bool true), .eq (.bool true), .eq (.bool true), .eq (.bool true)]) w2 l w' [v0, v1, v2, v3, v4, v5, v6, v7, v8, v9, v10, v11, v12, v13, v14, v15, v16, v17, v18, v19, v20, v21, v22]) (by kernel_rfl) ?_ ?_ ?_
  · intro l hl
    exact ⟨_, _, _, _, _, _, _, _, _, _, _, _, _, _, _, _, _, _, _, _, _, _, _, rfl, IS.start _ _ hl _⟩
  · rintro l a w' ⟨v0, v1, v2, v3, v4, v5, v6, v7, v8, v9, v10, v11, v12, v13, v14, v15, v16, v17, v18, v19, v20, v21, v22, rfl, F⟩ i hi h0 hall
    match i, hi, h0, hall with
    | 0, _, h0, hall =>
      have hxx := HX.out.below (below_2 HB2.out F.bel)
      have q0 := hxx.cell 0
      have q1 := hxx.cell 1
      have q2 := hxx.cell 2
      simp only [List.getElem?_toArray, List.getElem?_cons_zero, List.getElem?_cons_succ] at q0 q1 q2
      clear hxx
      have HF := Lib.hid (F.step FP.mono h0 (show 0 < 23 by decide) (Below.refl _ _) (x := .agg #[.string p.name, .slice a1 p.params.length c1, .slice a2 p.body.length c2]) rfl)
      clear F hall h0
      refine wpOp_step (by rfl) (fun K' hK => ?_)
      have HKk := Lib.hid hK
      clear hK
      go_simp
      exact HKk.out _ _ ⟨_, _, _, _, _, _, _, _, _, _, _, _, _, _, _, _, _, _, _, _, _, _, _, rfl, HF.out⟩
    | 1, _, h0, hall =>
      obtain rfl : v0 = .agg #[.string p.name, .slice a1 p.params.length c1, .slice a2 p.body.length c2] := F.f 0 (hall 0 (by decide +kernel))
      have HC := Lib.hid (HOK.out w' (HT.out.below (below_2 HB2.out F.bel)) (HK.out.below (below_2 HB2.out F.bel)))
      have HF := Lib.hid (fun w'' hb x hx => F.step FP.mono h0 (show 1 < 23 by decide) (w' := w'') hb (x := x) hx)
      clear F hall h0
      refine wpOp_step (by rfl) (fun K' hK => ?_)
      have HKk := Lib.hid hK
      clear hK
      go_simp
      go_at_call 14
      refine HC.out.mono ?_; rintro e' w5 ⟨rfl, hb5⟩
      have HF5 := Lib.hid (HF.out w5 hb5 _ (show PC.holds (.eq (.bool kt)) (.bool kt) w5 from rfl))
      exact HKk.out _ _ ⟨_, _, _, _, _, _, _, _, _, _, _, _, _, _, _, _, _, _, _, _, _, _, _, rfl, HF5.out⟩
    | 2, _, h0, hall =>
      have hxx := HX.out.below (below_2 HB2.out F.bel)
      have q0 := hxx.cell 0
      have q1 := hxx.cell 1
      have q2 := hxx.cell 2
      simp only [List.getElem?_toArray, List.getElem?_cons_zero, List.getElem?_cons_succ] at q0 q1 q2
      clear hxx
      have HF := Lib.hid (F.step FP.mono h0 (show 2 < 23 by decide) (Below.refl _ _) (x := .agg #[.string p.name, .slice a1 p.params.length c1, .slice a2 p.body.length c2]) rfl)
      clear F hall h0
      refine wpOp_step (by rfl) (fun K' hK => ?_)
      have HKk := Lib.hid hK
      clear hK
      go_simp
      exact HKk.out _ _ ⟨_, _, _, _, _, _, _, _, _, _, _, _, _, _, _, _, _, _, _, _, _, _, _, rfl, HF.out⟩
    | 3, _, h0, hall =>
      obtain rfl : v2 = .agg #[.string p.name, .slice a1 p.params.length c1, .slice a2 p.body.length c2] := F.f 2 (hall 2 (by decide +kernel))
      have HC := Lib.hid (HRK.out w' (HK.out.below (below_2 HB2.out F.bel)))
      have HF := Lib.hid (fun w'' hb x hx => F.step FP.mono h0 (show 3 < 23 by decide) (w' := w'') hb (x := x) hx)
      clear F hall h0
      refine wpOp_step (by rfl) (fun K' hK => ?_)
      have HKk := Lib.hid hK
      clear hK
      go_simp
      go_at_call 15
      refine HC.out.mono ?_; rintro e' w5 ⟨rfl, hb5⟩
      have HF5 := Lib.hid (HF.out w5 hb5 _ (show PC.holds (.eq (.bool kt)) (.bool kt) w5 from rfl))
      exact HKk.out _ _ ⟨_, _, _, _, _, _, _, _, _, _, _, _, _, _, _, _, _, _, _, _, _, _, _, rfl, HF5.out⟩
    | 4, _, h0, hall =>
      obtain rfl : v1 = .bool kt := F.f 1 (hall 1 (by decide +kernel))
      obtain rfl : v3 = .bool kt := F.f 3 (hall 3 (by decide +kernel))
      have HF := Lib.hid (F.step FP.mono h0 (show 4 < 23 by decide) (Below.refl _ _) (x := .bool true) rfl)
      clear F hall h0
      refine wpOp_step (by rfl) (fun K' hK => ?_)
      have HKk := Lib.hid hK
      clear hK
      go_simp
      exact HKk.out _ _ ⟨_, _, _, _, _, _, _, _, _, _, _, _, _, _, _, _, _, _, _, _, _, _, _, rfl, HF.out⟩
    | 5, _, h0, hall =>
      obtain rfl : v4 = .bool true := F.f 4 (hall 4 (by decide +kernel))
      have HF := Lib.hid (F.step FP.mono h0 (show 5 < 23 by decide) (Below.refl _ _) (x := .bool true) rfl)
      clear F hall h0
      refine wpOp_step (by rfl) (fun K' hK => ?_)
      have HKk := Lib.hid hK
      clear hK
      go_simp
      exact HKk.out _ _ ⟨_, _, _, _, _, _, _, _, _, _, _, _, _, _, _, _, _, _, _, _, _, _, _, rfl, HF.out⟩
    | 6, _, h0, hall =>
      obtain rfl : v5 = .bool true := F.f 5 (hall 5 (by decide +kernel))
      have hxx := HX.out.below (below_2 HB2.out F.bel)
      have q0 := hxx.cell 0
      have q1 := hxx.cell 1
      have q2 := hxx.cell 2
      simp only [List.getElem?_toArray, List.getElem?_cons_zero, List.getElem?_cons_succ] at q0 q1 q2
      clear hxx
      have HF := Lib.hid (F.step FP.mono h0 (show 6 < 23 by decide) (Below.refl _ _) (x := .agg #[.string p.name, .slice a1 p.params.length c1, .slice a2 p.body.length c2]) rfl)
      clear F hall h0
      refine wpOp_step (by rfl) (fun K' hK => ?_)
      have HKk := Lib.hid hK
      clear hK
      go_simp
      exact HKk.out _ _ ⟨_, _, _, _, _, _, _, _, _, _, _, _, _, _, _, _, _, _, _, _, _, _, _, rfl, HF.out⟩
    | 7, _, h0, hall =>
      obtain rfl : v5 = .bool true := F.f 5 (hall 5 (by decide +kernel))
      obtain rfl : v6 = .agg #[.string p.name, .slice a1 p.params.length c1, .slice a2 p.body.length c2] := F.f 6 (hall 6 (by decide +kernel))
      have HC := Lib.hid (HOC.out w' (HT.out.below (below_2 HB2.out F.bel)) (HK.out.below (below_2 HB2.out F.bel)))
      have HF := Lib.hid (fun w'' hb x hx => F.step FP.mono h0 (show 7 < 23 by decide) (w' := w'') hb (x := x) hx)
      clear F hall h0
      refine wpOp_step (by rfl) (fun K' hK => ?_)
      have HKk := Lib.hid hK
      clear hK
      go_simp
      go_at_call 16
      refine HC.out.mono ?_; rintro e' w5 ⟨rfl, hb5⟩
      have HF5 := Lib.hid (HF.out w5 hb5 _ (show PC.holds (.eq (.bool ct)) (.bool ct) w5 from rfl))
      exact HKk.out _ _ ⟨_, _, _, _, _, _, _, _, _, _, _, _, _, _, _, _, _, _, _, _, _, _, _, rfl, HF5.out⟩
    | 8, _, h0, hall =>
      obtain rfl : v5 = .bool true := F.f 5 (hall 5 (by decide +kernel))
      have hxx := HX.out.below (below_2 HB2.out F.bel)
      have q0 := hxx.cell 0
      have q1 := hxx.cell 1
      have q2 := hxx.cell 2
      simp only [List.getElem?_toArray, List.getElem?_cons_zero, List.getElem?_cons_succ] at q0 q1 q2
      clear hxx
      have HF := Lib.hid (F.step FP.mono h0 (show 8 < 23 by decide) (Below.refl _ _) (x := .agg #[.string p.name, .slice a1 p.params.length c1, .slice a2 p.body.length c2]) rfl)
      clear F hall h0
      refine wpOp_step (by rfl) (fun K' hK => ?_)
      have HKk := Lib.hid hK
      clear hK
      go_simp
      exact HKk.out _ _ ⟨_, _, _, _, _, _, _, _, _, _, _, _, _, _, _, _, _, _, _, _, _, _, _, rfl, HF.out⟩
    | 9, _, h0, hall =>
      obtain rfl : v5 = .bool true := F.f 5 (hall 5 (by decide +kernel))
      obtain rfl : v8 = .agg #[.string p.name, .slice a1 p.params.length c1, .slice a2 p.body.length c2] := F.f 8 (hall 8 (by decide +kernel))
      have HC := Lib.hid (HRC.out w' (HK.out.below (below_2 HB2.out F.bel)))
      have HF := Lib.hid (fun w'' hb x hx => F.step FP.mono h0 (show 9 < 23 by decide) (w' := w'') hb (x := x) hx)
      clear F hall h0
      refine wpOp_step (by rfl) (fun K' hK => ?_)
      have HKk := Lib.hid hK
      clear hK
      go_simp
      go_at_call 17
      refine HC.out.mono ?_; rintro e' w5 ⟨rfl, hb5⟩
      have HF5 := Lib.hid (HF.out w5 hb5 _ (show PC.holds (.eq (.bool ct)) (.bool ct) w5 from rfl))
      exact HKk.out _ _ ⟨_, _, _, _, _, _, _, _, _, _, _, _, _, _, _, _, _, _, _, _, _, _, _, rfl, HF5.out⟩
    | 10, _, h0, hall =>
      obtain rfl : v5 = .bool true := F.f 5 (hall 5 (by decide +kernel))
      obtain rfl : v7 = .bool ct := F.f 7 (hall 7 (by decide +kernel))
      obtain rfl : v9 = .bool ct := F.f 9 (hall 9 (by decide +kernel))
      have HF := Lib.hid (F.step FP.mono h0 (show 10 < 23 by decide) (Below.refl _ _) (x := .bool true) rfl)
      clear F hall h0
      refine wpOp_step (by rfl) (fun K' hK => ?_)
      have HKk := Lib.hid hK
      clear hK
      go_simp
      exact HKk.out _ _ ⟨_, _, _, _, _, _, _, _, _, _, _, _, _, _, _, _, _, _, _, _, _, _, _, rfl, HF.out⟩
    | 11, _, h0, hall =>
      obtain rfl : v5 = .bool true := F.f 5 (hall 5 (by decide +kernel))
      obtain rfl : v10 = .bool true := F.f 10 (hall 10 (by decide +kernel))
      have HF := Lib.hid (F.step FP.mono h0 (show 11 < 23 by decide) (Below.refl _ _) (x := .bool true) rfl)
      clear F hall h0
      refine wpOp_step (by rfl) (fun K' hK => ?_)
      have HKk := Lib.hid hK
      clear hK
      go_simp
      exact HKk.out _ _ ⟨_, _, _, _, _, _, _, _, _, _, _, _, _, _, _, _, _, _, _, _, _, _, _, rfl, HF.out⟩
    | 12, _, h0, hall =>
      obtain rfl : v11 = .bool true := F.f 11 (hall 11 (by decide +kernel))
      have HF := Lib.hid (F.step FP.mono h0 (show 12 < 23 by decide) (Below.refl _ _) (x := .bool true) rfl)
      clear F hall h0
      refine wpOp_step (by rfl) (fun K' hK => ?_)
      have HKk := Lib.hid hK
      clear hK
      go_simp
      exact HKk.out _ _ ⟨_, _, _, _, _, _, _, _, _, _, _, _, _, _, _, _, _, _, _, _, _, _, _, rfl, HF.out⟩
    | 13, _, h0, hall =>
      obtain rfl : v12 = .bool true := F.f 12 (hall 12 (by decide +kernel))
      have hxx := HX.out.below (below_2 HB2.out F.bel)
      have q0 := hxx.cell 0
      have q1 := hxx.cell 1
      have q2 := hxx.cell 2
      simp only [List.getElem?_toArray, List.getElem?_cons_zero, List.getElem?_cons_succ] at q0 q1 q2
      clear hxx
      have HF := Lib.hid (F.step FP.mono h0 (show 13 < 23 by decide) (Below.refl _ _) (x := .agg #[.string p.name, .slice a1 p.params.length c1, .slice a2 p.body.length c2]) rfl)
      clear F hall h0
      refine wpOp_step (by rfl) (fun K' hK => ?_)
      have HKk := Lib.hid hK
      clear hK
      go_simp
      exact HKk.out _ _ ⟨_, _, _, _, _, _, _, _, _, _, _, _, _, _, _, _, _, _, _, _, _, _, _, rfl, HF.out⟩
    | 14, _, h0, hall =>
      obtain rfl : v12 = .bool true := F.f 12 (hall 12 (by decide +kernel))
      obtain rfl : v13 = .agg #[.string p.name, .slice a1 p.params.length c1, .slice a2 p.body.length c2] := F.f 13 (hall 13 (by decide +kernel))
      have HC := Lib.hid (HOI.out w' (HT.out.below (below_2 HB2.out F.bel)) (HK.out.below (below_2 HB2.out F.bel)))
      have HF := Lib.hid (fun w'' hb x hx => F.step FP.mono h0 (show 14 < 23 by decide) (w' := w'') hb (x := x) hx)
      clear F hall h0
      refine wpOp_step (by rfl) (fun K' hK => ?_)
      have HKk := Lib.hid hK
      clear hK
      go_simp
      go_at_call 18
      refine HC.out.mono ?_; rintro e' w5 ⟨rfl, hb5⟩
      have HF5 := Lib.hid (HF.out w5 hb5 _ (show PC.holds (.eq (.bool it)) (.bool it) w5 from rfl))
      exact HKk.out _ _ ⟨_, _, _, _, _, _, _, _, _, _, _, _, _, _, _, _, _, _, _, _, _, _, _, rfl, HF5.out⟩
    | 15, _, h0, hall =>
      obtain rfl : v12 = .bool true := F.f 12 (hall 12 (by decide +kernel))
      have hxx := HX.out.below (below_2 HB2.out F.bel)
      have q0 := hxx.cell 0
      have q1 := hxx.cell 1
      have q2 := hxx.cell 2
      simp only [List.getElem?_toArray, List.getElem?_cons_zero, List.getElem?_cons_succ] at q0 q1 q2
      clear hxx
      have HF := Lib.hid (F.step FP.mono h0 (show 15 < 23 by decide) (Below.refl _ _) (x := .agg #[.string p.name, .slice a1 p.params.length c1, .slice a2 p.body.length c2]) rfl)
      clear F hall h0
      refine wpOp_step (by rfl) (fun K' hK => ?_)
      have HKk := Lib.hid hK
      clear hK
      go_simp
      exact HKk.out _ _ ⟨_, _, _, _, _, _, _, _, _, _, _, _, _, _, _, _, _, _, _, _, _, _, _, rfl, HF.out⟩
    | 16, _, h0, hall =>
      obtain rfl : v12 = .bool true := F.f 12 (hall 12 (by decide +kernel))
      obtain rfl : v15 = .agg #[.string p.name, .slice a1 p.params.length c1, .slice a2 p.body.length c2] := F.f 15 (hall 15 (by decide +kernel))
      have HC := Lib.hid (HRI.out w' (HK.out.below (below_2 HB2.out F.bel)))
      have HF := Lib.hid (fun w'' hb x hx => F.step FP.mono h0 (show 16 < 23 by decide) (w' := w'') hb (x := x) hx)
      clear F hall h0
      refine wpOp_step (by rfl) (fun K' hK => ?_)
      have HKk := Lib.hid hK
      clear hK
      go_simp
      go_at_call 19
      refine HC.out.mono ?_; rintro e' w5 ⟨rfl, hb5⟩
      have HF5 := Lib.hid (HF.out w5 hb5 _ (show PC.holds (.eq (.bool it)) (.bool it) w5 from rfl))
      exact HKk.out _ _ ⟨_, _, _, _, _, _, _, _, _, _, _, _, _, _, _, _, _, _, _, _, _, _, _, rfl, HF5.out⟩
    | 17, _, h0, hall =>
      obtain rfl : v12 = .bool true := F.f 12 (hall 12 (by decide +kernel))
      obtain rfl : v14 = .bool it := F.f 14 (hall 14 (by decide +kernel))
      obtain rfl : v16 = .bool it := F.f 16 (hall 16 (by decide +kernel))
      have HF := Lib.hid (F.step FP.mono h0 (show 17 < 23 by decide) (Below.refl _ _) (x := .bool true) rfl)
      clear F hall h0
      refine wpOp_step (by rfl) (fun K' hK => ?_)
      have HKk := Lib.hid hK
      clear hK
      go_simp
      exact HKk.out _ _ ⟨_, _, _, _, _, _, _, _, _, _, _, _, _, _, _, _, _, _, _, _, _, _, _, rfl, HF.out⟩
    | 18, _, h0, hall =>
      obtain rfl : v12 = .bool true := F.f 12 (hall 12 (by decide +kernel))
      obtain rfl : v17 = .bool true := F.f 17 (hall 17 (by decide +kernel))
      have HF := Lib.hid (F.step FP.mono h0 (show 18 < 23 by decide) (Below.refl _ _) (x := .bool true) rfl)
      clear F hall h0
      refine wpOp_step (by rfl) (fun K' hK => ?_)
      have HKk := Lib.hid hK
      clear hK
      go_simp
      exact HKk.out _ _ ⟨_, _, _, _, _, _, _, _, _, _, _, _, _, _, _, _, _, _, _, _, _, _, _, rfl, HF.out⟩
    | 19, _, h0, hall =>
      obtain rfl : v18 = .bool true := F.f 18 (hall 18 (by decide +kernel))
      have HF := Lib.hid (F.step FP.mono h0 (show 19 < 23 by decide) (Below.refl _ _) (x := .bool true) rfl)
      clear F hall h0
      refine wpOp_step (by rfl) (fun K' hK => ?_)
      have HKk := Lib.hid hK
      clear hK
      go_simp
      exact HKk.out _ _ ⟨_, _, _, _, _, _, _, _, _, _, _, _, _, _, _, _, _, _, _, _, _, _, _, rfl, HF.out⟩
    | 20, _, h0, hall =>
      obtain rfl : v19 = .bool true := F.f 19 (hall 19 (by decide +kernel))
      have HC := Lib.hid (HW.out w' (HT.out.below (below_2 HB2.out F.bel)))
      have HF := Lib.hid (fun w'' hb x hx => F.step FP.mono h0 (show 20 < 23 by decide) (w' := w'') hb (x := x) hx)
      clear F hall h0
      refine wpOp_step (by rfl) (fun K' hK => ?_)
      have HKk := Lib.hid hK
      clear hK
      go_simp
      go_at_call 10
      refine HC.out.mono ?_; rintro e' w5 ⟨rfl, hb5⟩
      have HF5 := Lib.hid (HF.out w5 hb5 _ (show PC.holds (.eq (.bool true)) (.bool true) w5 from rfl))
      exact HKk.out _ _ ⟨_, _, _, _, _, _, _, _, _, _, _, _, _, _, _, _, _, _, _, _, _, _, _, rfl, HF5.out⟩
    | 21, _, h0, hall =>
      obtain rfl : v19 = .bool true := F.f 19 (hall 19 (by decide +kernel))
      obtain rfl : v20 = .bool true := F.f 20 (hall 20 (by decide +kernel))
      have HF := Lib.hid (F.step FP.mono h0 (show 21 < 23 by decide) (Below.refl _ _) (x := .bool true) rfl)
      clear F hall h0
      refine wpOp_step (by rfl) (fun K' hK => ?_)
      have HKk := Lib.hid hK
      clear hK
      go_simp
      exact HKk.out _ _ ⟨_, _, _, _, _, _, _, _, _, _, _, _, _, _, _, _, _, _, _, _, _, _, _, rfl, HF.out⟩
    | 22, _, h0, hall =>
      obtain rfl : v21 = .bool true := F.f 21 (hall 21 (by decide +kernel))
      have HF := Lib.hid (F.step FP.mono h0 (show 22 < 23 by decide) (Below.refl _ _) (x := .bool true) rfl)
      clear F hall h0
      refine wpOp_step (by rfl) (fun K' hK => ?_)
      have HKk := Lib.hid hK
      clear hK
      go_simp
      exact HKk.out _ _ ⟨_, _, _, _, _, _, _, _, _, _, _, _, _, _, _, _, _, _, _, _, _, _, _, rfl, HF.out⟩
    | i + 23, hi, _, _ => exact absurd hi (by show ¬ (i + 23 < 23); omega)
  rintro l9 a wf ⟨r0, r1, r2, r3, r4, r5, r6, r7, r8, r9, r10, r11, r12, r13, r14, r15, r16, r17, r18, r19, r20, r21, r22, rfl, F⟩ hall
  obtain rfl : r22 = .bool true := F.f 22 (hall 22 (by decide))
  have HBf := Lib.hid (below_2 HB0.out (below_2 HB2.out F.bel))
  clear F hall
  go_wp2_with fail
  go_ret
  exact ⟨rfl, HBf.out⟩
theorem lawBranches_any (p : Pr) (a1 a2 : Option Addr) (c1 c2 : Nat) (hok : OkP p) (hc1 : p.params.length ≤ c1) (w : World) (ht : Tb w) (hK : PrIn w p a1 a2) :
    Calls Tryz.prog 4 #[prV p a1 c1 a2 c2] w fun e' w' => e' = .returned (.bool true) ∧ Below w.heap.size w w' := lawBranches_core works_any p a1 a2 c1 c2 hok hc1 w ht hK
end Go.Proofs.YtnelpgeiioflmaaGreatDoor.F
