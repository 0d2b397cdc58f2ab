/-
  The laws of layer 14: without a read nothing is tainted.
-/
import Derived.Test.YtnelpgeiioflmaaGreatDoorM25
import Derived.Test.YtnelpgeiioflmaaGreatDoorSFLC
namespace Go.Proofs.YtnelpgeiioflmaaGreatDoor.F
open Go.RowKit
open L (Str isName prt size_len below_2 below_box ret_bool ret_int eql_eq bytes_eq)
open A (Ex St Pm Pr Bx PmsAt StrsAt PrIn OkP prV prO names cB SmP small GivesN GivesV walk exprs)
open Y (chk Tb)
open P (On off_of on_set wp_region_inv IS)

set_option maxHeartbeats 8000000 in
set_option maxRecDepth 100000 in
theorem lawPure_core (hwk : Wk) (p : Pr) (a1 a2 : Option Addr) (c1 c2 : Nat) (hok : OkP p) (hc1 : p.params.length ≤ c1) (w : World) (ht : Tb w) (hK : PrIn w p a1 a2) :
    Calls Tryz.prog 6 #[prV p a1 c1 a2 c2] w fun e' w' => e' = .returned (.bool true) ∧ Below w.heap.size w w' := by
  have hb := below_box w (prO p a1 c1 a2 c2)
  have hbx := Bx.new w #[.string p.name, .slice a1 p.params.length c1, .slice a2 p.body.length c2] 25
  have HS := Lib.hid (A.rsmall_any p a1 c1 a2 c2 600 (by omega) hok _ (hK.below hb))
  have HW := Lib.hid hwk
  have HT := Lib.hid (ht.below hb)
  have HX := Lib.hid hbx
  have HK := Lib.hid (hK.below hb)
  have HB0 := Lib.hid hb
  have HSm : Hid (small p 600 = true → Sm p a1 a2 c1 c2) := fun h => sm_of (m := 600) (by omega) hok hc1 (A.small_smp h)
  have HTo := Lib.hid (ltouches_any p a1 a2 c1 c2 hok _ (hK.below hb))
  have HQ : Hid ((exprs p).any (tE no) = false → taint p = [] ∧ keysT p = false ∧ ctrlT p = false) := fun h => quiet_main (by rw [quiet_not, h]; rfl)
  have HTo2 : Hid (∀ w', PrIn w' p a1 a2 → Calls Tryz.prog 24 #[prV p a1 c1 a2 c2] w' fun e' w'' => e' = .returned (.bool ((exprs p).any (tE no))) ∧ Below w'.heap.size w' w'') := fun w' k => ltouches_any p a1 a2 c1 c2 hok w' k
  unfold prV at HS ⊢
  unfold prO at *
  generalize small p 600 = sm at *
  clear hb hbx hok hc1 ht hK hwk
  have x0 := HX.out.cell 0
  have x1 := HX.out.cell 1
  have x2 := HX.out.cell 2
  simp only [List.getElem?_toArray, List.getElem?_cons_zero, List.getElem?_cons_succ] at x0 x1 x2
  cases sm with
  | false =>
    go_enter Tryz.func6, Tryz.ntmps6
    go_wp2_with fail
    refine HS.out.mono ?_; rintro e' w2 ⟨rfl, hb2⟩
    have HB2 := Lib.hid (below_2 HB0.out hb2)
    have HT2 := Lib.hid (HT.out.below hb2)
    clear hb2 x0 x1 x2
    go_wp2_with fail
    refine (HW.out _ HT2.out).mono ?_; rintro e' w8 ⟨rfl, hb8⟩
    have HB8 := Lib.hid (below_2 HB2.out hb8)
    clear hb8
    go_wp2_with fail
    go_ret
    exact ⟨rfl, HB8.out⟩
  | true =>
  obtain ⟨oT, oK, oC, oI, ck, nm, rT, wk, hln⟩ := HSm.out (by trivial)
  have HOT := Lib.hid oT
  have HOK := Lib.hid oK
  have HOC := Lib.hid oC
  have HOI := Lib.hid oI
  have HCK := Lib.hid ck
  clear oT oK oC oI ck nm rT wk HSm
  unfold prV at HOT HOK HOC HOI HCK HTo2
  clear HTo
  obtain ⟨tq, htq⟩ : ∃ b, (exprs p).any (tE no) = b := ⟨_, rfl⟩
  rw [htq] at HTo2 HQ
  clear htq
  go_enter Tryz.func6, Tryz.ntmps6
  go_wp2_with fail
  refine HS.out.mono ?_; rintro e' w2 ⟨rfl, hb2⟩
  have hx2 := HX.out.below hb2
  have y0 := hx2.cell 0
  have y1 := hx2.cell 1
  have y2 := hx2.cell 2
  simp only [List.getElem?_toArray, List.getElem?_cons_zero, List.getElem?_cons_succ] at y0 y1 y2
  have HTT := Lib.hid (HTo2.out w2 (HK.out.below hb2))
  have HB1 := Lib.hid hb2
  clear hb2 hx2 x0 x1 x2 HTo2
  cases tq with
  | true =>
    go_wp2_with fail
    refine HTT.out.mono ?_; rintro e' w3 ⟨rfl, hb3⟩
    have HB3 := Lib.hid (below_2 HB1.out hb3)
    clear hb3 y0 y1 y2
    go_wp2_with fail
    refine (HW.out _ (HT.out.below HB3.out)).mono ?_; rintro e' w8 ⟨rfl, hb8⟩
    have HB8 := Lib.hid (below_2 (below_2 HB0.out HB3.out) hb8)
    clear hb8
    go_wp2_with fail
    go_ret
    exact ⟨rfl, HB8.out⟩
  | false =>
  obtain ⟨hq1, hq2, hq3⟩ := HQ.out (by trivial)
  rw [hq1] at HOT
  rw [hq2] at HOK
  rw [hq3] at HOC
  have hqi : indep p = decide ((chk p).2 = 0) := by unfold indep; rw [hq2]; simp
  rw [hqi] at HOI
  generalize (chk p).2 = z at *
  clear hq1 hq2 hq3 hqi HQ
  go_wp2_with fail
  refine HTT.out.mono ?_; rintro e' w3 ⟨rfl, hb3⟩
  have HB2 := Lib.hid (below_2 HB1.out hb3)
  have hzb : (z == 0) = decide (z = 0) := Bool.beq_eq_decide_eq _ _
  have HZB := Lib.hid hzb
  generalize decide (z = 0) = zb at *
  clear hb3 y0 y1 y2 HTT hzb
  go_upto_region 3 with fail
  refine wp_region_inv rfl (fun l a w' => ∃ v0 v1 v2 v3 v4 v5 v6 v7 v8 v9 v10 v11 v12 v13 v14 v15 v16 v17 v18 v19 v20 v21 v22 v23 v24 v25 : Value, a = { tmps := #[Value.agg #[Value.string p.name, Value.slice a1 p.params.length c1, Value.slice a2 p.body.length c2], Value.pointer (some { block := w.heap.size, off := 0 }), v25, Value.agg #[Value.string p.name, Value.slice a1 p.params.length c1, Value.slice a2 p.body.length c2], Value.bool true, Value.bool false, Value.bool false, Value.agg #[Value.string p.name, Value.slice a1 p.params.length c1, Value.slice a2 p.body.length c2], Value.bool false, Value.bool false, undef, v0, v1, v2, v3, v4, v5, v6, v7, v8, v9, v10, v11, v12, v13, v14, v15, v16, v17, v18, v19, v20, v21, v22, v23, v24], defers := [] } ∧ IS (FP [.eq (.agg #[.string p.name, .slice a1 p.params.length c1, .slice a2 p.body.length c2]), .strs [], .eq (.int .i64 0), .eq (.bool true), .eq (.bool true), .eq (.agg #[.string p.name, .slice a1 p.params.length c1, .slice a2 p.body.length c2]), .eq (.bool false), .eq (.bool true), .eq (.bool true), .eq (.bool true), .eq (.agg #[.string p.name, .slice a1 p.params.length c1, .slice a2 p.body.length c2]), .eq (.bool false), .eq (.bool true), .eq (.bool true), .eq (.bool true), .eq (.agg #[.string p.name, .slice a1 p.params.length c1, .slice a2 p.body.length c2]), .eq (.bool zb), .eq (.agg #[.string p.name, .slice a1 p.params.length c1, .slice a2 p.body.length c2]), .eq (.int .i64 z), .eq (.bool zb), .eq (.bool true), .eq (.bool true), .eq (.bool true), .eq (.bool true), .eq (.bool true), .eq (.bool true)]) w3 l w' [v0, v1, v2, v3, v4, v5, v6, v7, v8, v9, v10, v11, v12, v13, v14, v15, v16, v17, v18, v19, v20, v21, v22, v23, v24, v25]) (by kernel_rfl) ?_ ?_ ?_
  · intro l hl
    exact ⟨_, _, _, _, _, _, _, _, _, _, _, _, _, _, _, _, _, _, _, _, _, _, _, _, _, _, rfl, IS.start _ _ hl _⟩
  · rintro l a w' ⟨v0, v1, v2, v3, v4, v5, v6, v7, v8, v9, v10, v11, v12, v13, v14, v15, v16, v17, v18, v19, v20, v21, v22, v23, v24, v25, rfl, F⟩ i hi h0 hall
    match i, hi, h0, hall with
    | 0, _, h0, hall =>
      have hxx := HX.out.below (below_2 HB2.out F.bel)
      have q0 := hxx.cell 0
      have q1 := hxx.cell 1
      have q2 := hxx.cell 2
      simp only [List.getElem?_toArray, List.getElem?_cons_zero, List.getElem?_cons_succ] at q0 q1 q2
      clear hxx
      have HF := Lib.hid (F.step FP.mono h0 (show 0 < 26 by decide) (Below.refl _ _) (x := .agg #[.string p.name, .slice a1 p.params.length c1, .slice a2 p.body.length c2]) rfl)
      clear F hall h0
      refine wpOp_step (by rfl) (fun K' hK => ?_)
      have HKk := Lib.hid hK
      clear hK
      go_simp
      exact HKk.out _ _ ⟨_, _, _, _, _, _, _, _, _, _, _, _, _, _, _, _, _, _, _, _, _, _, _, _, _, _, rfl, HF.out⟩
    | 1, _, h0, hall =>
      obtain rfl : v0 = .agg #[.string p.name, .slice a1 p.params.length c1, .slice a2 p.body.length c2] := F.f 0 (hall 0 (by decide +kernel))
      have HC := Lib.hid (HOT.out w' (HT.out.below (below_2 HB2.out F.bel)) (HK.out.below (below_2 HB2.out F.bel)))
      have HF := Lib.hid (fun w'' hb x hx => F.step FP.mono h0 (show 1 < 26 by decide) (w' := w'') hb (x := x) hx)
      clear F hall h0
      refine wpOp_step (by rfl) (fun K' hK => ?_)
      have HKk := Lib.hid hK
      clear hK
      go_simp
      go_at_call 12
      refine HC.out.mono ?_; rintro e' w5 ⟨p5, q5, rfl, hq5, hp5, hb5⟩
      have HF5 := Lib.hid (HF.out w5 hb5 _ (show PC.holds (.strs []) (.slice p5 (([] : List ByteArray).length) q5) w5 from ⟨p5, q5, rfl, hp5⟩))
      exact HKk.out _ _ ⟨_, _, _, _, _, _, _, _, _, _, _, _, _, _, _, _, _, _, _, _, _, _, _, _, _, _, rfl, HF5.out⟩
    | 2, _, h0, hall =>
      obtain ⟨p1, q1, rfl, hp1⟩ : ∃ p q, v1 = .slice p 0 q ∧ StrsAt w' p [] := F.f 1 (hall 1 (by decide +kernel))
      have HF := Lib.hid (F.step FP.mono h0 (show 2 < 26 by decide) (Below.refl _ _) (x := .int .i64 0) rfl)
      clear F hall h0
      refine wpOp_step (by rfl) (fun K' hK => ?_)
      have HKk := Lib.hid hK
      clear hK
      go_simp
      exact HKk.out _ _ ⟨_, _, _, _, _, _, _, _, _, _, _, _, _, _, _, _, _, _, _, _, _, _, _, _, _, _, rfl, HF.out⟩
    | 3, _, h0, hall =>
      obtain rfl : v2 = .int .i64 0 := F.f 2 (hall 2 (by decide +kernel))
      have HF := Lib.hid (F.step FP.mono h0 (show 3 < 26 by decide) (Below.refl _ _) (x := .bool true) rfl)
      clear F hall h0
      refine wpOp_step (by rfl) (fun K' hK => ?_)
      have HKk := Lib.hid hK
      clear hK
      go_simp
      exact HKk.out _ _ ⟨_, _, _, _, _, _, _, _, _, _, _, _, _, _, _, _, _, _, _, _, _, _, _, _, _, _, rfl, HF.out⟩
    | 4, _, h0, hall =>
      obtain rfl : v3 = .bool true := F.f 3 (hall 3 (by decide +kernel))
      have HF := Lib.hid (F.step FP.mono h0 (show 4 < 26 by decide) (Below.refl _ _) (x := .bool true) rfl)
      clear F hall h0
      refine wpOp_step (by rfl) (fun K' hK => ?_)
      have HKk := Lib.hid hK
      clear hK
      go_simp
      exact HKk.out _ _ ⟨_, _, _, _, _, _, _, _, _, _, _, _, _, _, _, _, _, _, _, _, _, _, _, _, _, _, rfl, HF.out⟩
    | 5, _, h0, hall =>
      obtain rfl : v4 = .bool true := F.f 4 (hall 4 (by decide +kernel))
      have hxx := HX.out.below (below_2 HB2.out F.bel)
      have q0 := hxx.cell 0
      have q1 := hxx.cell 1
      have q2 := hxx.cell 2
      simp only [List.getElem?_toArray, List.getElem?_cons_zero, List.getElem?_cons_succ] at q0 q1 q2
      clear hxx
      have HF := Lib.hid (F.step FP.mono h0 (show 5 < 26 by decide) (Below.refl _ _) (x := .agg #[.string p.name, .slice a1 p.params.length c1, .slice a2 p.body.length c2]) rfl)
      clear F hall h0
      refine wpOp_step (by rfl) (fun K' hK => ?_)
      have HKk := Lib.hid hK
      clear hK
      go_simp
      exact HKk.out _ _ ⟨_, _, _, _, _, _, _, _, _, _, _, _, _, _, _, _, _, _, _, _, _, _, _, _, _, _, rfl, HF.out⟩
    | 6, _, h0, hall =>
      obtain rfl : v4 = .bool true := F.f 4 (hall 4 (by decide +kernel))
      obtain rfl : v5 = .agg #[.string p.name, .slice a1 p.params.length c1, .slice a2 p.body.length c2] := F.f 5 (hall 5 (by decide +kernel))
      have HC := Lib.hid (HOK.out w' (HT.out.below (below_2 HB2.out F.bel)) (HK.out.below (below_2 HB2.out F.bel)))
      have HF := Lib.hid (fun w'' hb x hx => F.step FP.mono h0 (show 6 < 26 by decide) (w' := w'') hb (x := x) hx)
      clear F hall h0
      refine wpOp_step (by rfl) (fun K' hK => ?_)
      have HKk := Lib.hid hK
      clear hK
      go_simp
      go_at_call 14
      refine HC.out.mono ?_; rintro e' w5 ⟨rfl, hb5⟩
      have HF5 := Lib.hid (HF.out w5 hb5 _ (show PC.holds (.eq (.bool false)) (.bool false) w5 from rfl))
      exact HKk.out _ _ ⟨_, _, _, _, _, _, _, _, _, _, _, _, _, _, _, _, _, _, _, _, _, _, _, _, _, _, rfl, HF5.out⟩
    | 7, _, h0, hall =>
      obtain rfl : v4 = .bool true := F.f 4 (hall 4 (by decide +kernel))
      obtain rfl : v6 = .bool false := F.f 6 (hall 6 (by decide +kernel))
      have HF := Lib.hid (F.step FP.mono h0 (show 7 < 26 by decide) (Below.refl _ _) (x := .bool true) rfl)
      clear F hall h0
      refine wpOp_step (by rfl) (fun K' hK => ?_)
      have HKk := Lib.hid hK
      clear hK
      go_simp
      exact HKk.out _ _ ⟨_, _, _, _, _, _, _, _, _, _, _, _, _, _, _, _, _, _, _, _, _, _, _, _, _, _, rfl, HF.out⟩
    | 8, _, h0, hall =>
      obtain rfl : v4 = .bool true := F.f 4 (hall 4 (by decide +kernel))
      obtain rfl : v7 = .bool true := F.f 7 (hall 7 (by decide +kernel))
      have HF := Lib.hid (F.step FP.mono h0 (show 8 < 26 by decide) (Below.refl _ _) (x := .bool true) rfl)
      clear F hall h0
      refine wpOp_step (by rfl) (fun K' hK => ?_)
      have HKk := Lib.hid hK
      clear hK
      go_simp
      exact HKk.out _ _ ⟨_, _, _, _, _, _, _, _, _, _, _, _, _, _, _, _, _, _, _, _, _, _, _, _, _, _, rfl, HF.out⟩
    | 9, _, h0, hall =>
      obtain rfl : v8 = .bool true := F.f 8 (hall 8 (by decide +kernel))
      have HF := Lib.hid (F.step FP.mono h0 (show 9 < 26 by decide) (Below.refl _ _) (x := .bool true) rfl)
      clear F hall h0
      refine wpOp_step (by rfl) (fun K' hK => ?_)
      have HKk := Lib.hid hK
      clear hK
      go_simp
      exact HKk.out _ _ ⟨_, _, _, _, _, _, _, _, _, _, _, _, _, _, _, _, _, _, _, _, _, _, _, _, _, _, rfl, HF.out⟩
    | 10, _, h0, hall =>
      obtain rfl : v9 = .bool true := F.f 9 (hall 9 (by decide +kernel))
      have hxx := HX.out.below (below_2 HB2.out F.bel)
      have q0 := hxx.cell 0
      have q1 := hxx.cell 1
      have q2 := hxx.cell 2
      simp only [List.getElem?_toArray, List.getElem?_cons_zero, List.getElem?_cons_succ] at q0 q1 q2
      clear hxx
      have HF := Lib.hid (F.step FP.mono h0 (show 10 < 26 by decide) (Below.refl _ _) (x := .agg #[.string p.name, .slice a1 p.params.length c1, .slice a2 p.body.length c2]) rfl)
      clear F hall h0
      refine wpOp_step (by rfl) (fun K' hK => ?_)
      have HKk := Lib.hid hK
      clear hK
      go_simp
      exact HKk.out _ _ ⟨_, _, _, _, _, _, _, _, _, _, _, _, _, _, _, _, _, _, _, _, _, _, _, _, _, _, rfl, HF.out⟩
    | 11, _, h0, hall =>
      obtain rfl : v9 = .bool true := F.f 9 (hall 9 (by decide +kernel))
      obtain rfl : v10 = .agg #[.string p.name, .slice a1 p.params.length c1, .slice a2 p.body.length c2] := F.f 10 (hall 10 (by decide +kernel))
      have HC := Lib.hid (HOC.out w' (HT.out.below (below_2 HB2.out F.bel)) (HK.out.below (below_2 HB2.out F.bel)))
      have HF := Lib.hid (fun w'' hb x hx => F.step FP.mono h0 (show 11 < 26 by decide) (w' := w'') hb (x := x) hx)
      clear F hall h0
      refine wpOp_step (by rfl) (fun K' hK => ?_)
      have HKk := Lib.hid hK
      clear hK
      go_simp
      go_at_call 16
      refine HC.out.mono ?_; rintro e' w5 ⟨rfl, hb5⟩
      have HF5 := Lib.hid (HF.out w5 hb5 _ (show PC.holds (.eq (.bool false)) (.bool false) w5 from rfl))
      exact HKk.out _ _ ⟨_, _, _, _, _, _, _, _, _, _, _, _, _, _, _, _, _, _, _, _, _, _, _, _, _, _, rfl, HF5.out⟩
    | 12, _, h0, hall =>
      obtain rfl : v9 = .bool true := F.f 9 (hall 9 (by decide +kernel))
      obtain rfl : v11 = .bool false := F.f 11 (hall 11 (by decide +kernel))
      have HF := Lib.hid (F.step FP.mono h0 (show 12 < 26 by decide) (Below.refl _ _) (x := .bool true) rfl)
      clear F hall h0
      refine wpOp_step (by rfl) (fun K' hK => ?_)
      have HKk := Lib.hid hK
      clear hK
      go_simp
      exact HKk.out _ _ ⟨_, _, _, _, _, _, _, _, _, _, _, _, _, _, _, _, _, _, _, _, _, _, _, _, _, _, rfl, HF.out⟩
    | 13, _, h0, hall =>
      obtain rfl : v9 = .bool true := F.f 9 (hall 9 (by decide +kernel))
      obtain rfl : v12 = .bool true := F.f 12 (hall 12 (by decide +kernel))
      have HF := Lib.hid (F.step FP.mono h0 (show 13 < 26 by decide) (Below.refl _ _) (x := .bool true) rfl)
      clear F hall h0
      refine wpOp_step (by rfl) (fun K' hK => ?_)
      have HKk := Lib.hid hK
      clear hK
      go_simp
      exact HKk.out _ _ ⟨_, _, _, _, _, _, _, _, _, _, _, _, _, _, _, _, _, _, _, _, _, _, _, _, _, _, rfl, HF.out⟩
    | 14, _, h0, hall =>
      obtain rfl : v13 = .bool true := F.f 13 (hall 13 (by decide +kernel))
      have HF := Lib.hid (F.step FP.mono h0 (show 14 < 26 by decide) (Below.refl _ _) (x := .bool true) rfl)
      clear F hall h0
      refine wpOp_step (by rfl) (fun K' hK => ?_)
      have HKk := Lib.hid hK
      clear hK
      go_simp
      exact HKk.out _ _ ⟨_, _, _, _, _, _, _, _, _, _, _, _, _, _, _, _, _, _, _, _, _, _, _, _, _, _, rfl, HF.out⟩
    | 15, _, h0, hall =>
      obtain rfl : v14 = .bool true := F.f 14 (hall 14 (by decide +kernel))
      have hxx := HX.out.below (below_2 HB2.out F.bel)
      have q0 := hxx.cell 0
      have q1 := hxx.cell 1
      have q2 := hxx.cell 2
      simp only [List.getElem?_toArray, List.getElem?_cons_zero, List.getElem?_cons_succ] at q0 q1 q2
      clear hxx
      have HF := Lib.hid (F.step FP.mono h0 (show 15 < 26 by decide) (Below.refl _ _) (x := .agg #[.string p.name, .slice a1 p.params.length c1, .slice a2 p.body.length c2]) rfl)
      clear F hall h0
      refine wpOp_step (by rfl) (fun K' hK => ?_)
      have HKk := Lib.hid hK
      clear hK
      go_simp
      exact HKk.out _ _ ⟨_, _, _, _, _, _, _, _, _, _, _, _, _, _, _, _, _, _, _, _, _, _, _, _, _, _, rfl, HF.out⟩
    | 16, _, h0, hall =>
      obtain rfl : v14 = .bool true := F.f 14 (hall 14 (by decide +kernel))
      obtain rfl : v15 = .agg #[.string p.name, .slice a1 p.params.length c1, .slice a2 p.body.length c2] := F.f 15 (hall 15 (by decide +kernel))
      have HC := Lib.hid (HOI.out w' (HT.out.below (below_2 HB2.out F.bel)) (HK.out.below (below_2 HB2.out F.bel)))
      have HF := Lib.hid (fun w'' hb x hx => F.step FP.mono h0 (show 16 < 26 by decide) (w' := w'') hb (x := x) hx)
      clear F hall h0
      refine wpOp_step (by rfl) (fun K' hK => ?_)
      have HKk := Lib.hid hK
      clear hK
      go_simp
      go_at_call 18
      refine HC.out.mono ?_; rintro e' w5 ⟨rfl, hb5⟩
      have HF5 := Lib.hid (HF.out w5 hb5 _ (show PC.holds (.eq (.bool zb)) (.bool zb) w5 from rfl))
      exact HKk.out _ _ ⟨_, _, _, _, _, _, _, _, _, _, _, _, _, _, _, _, _, _, _, _, _, _, _, _, _, _, rfl, HF5.out⟩
    | 17, _, h0, hall =>
      obtain rfl : v14 = .bool true := F.f 14 (hall 14 (by decide +kernel))
      have hxx := HX.out.below (below_2 HB2.out F.bel)
      have q0 := hxx.cell 0
      have q1 := hxx.cell 1
      have q2 := hxx.cell 2
      simp only [List.getElem?_toArray, List.getElem?_cons_zero, List.getElem?_cons_succ] at q0 q1 q2
      clear hxx
      have HF := Lib.hid (F.step FP.mono h0 (show 17 < 26 by decide) (Below.refl _ _) (x := .agg #[.string p.name, .slice a1 p.params.length c1, .slice a2 p.body.length c2]) rfl)
      clear F hall h0
      refine wpOp_step (by rfl) (fun K' hK => ?_)
      have HKk := Lib.hid hK
      clear hK
      go_simp
      exact HKk.out _ _ ⟨_, _, _, _, _, _, _, _, _, _, _, _, _, _, _, _, _, _, _, _, _, _, _, _, _, _, rfl, HF.out⟩
    | 18, _, h0, hall =>
      obtain rfl : v14 = .bool true := F.f 14 (hall 14 (by decide +kernel))
      obtain rfl : v17 = .agg #[.string p.name, .slice a1 p.params.length c1, .slice a2 p.body.length c2] := F.f 17 (hall 17 (by decide +kernel))
      have HC := Lib.hid (HCK.out w' (HT.out.below (below_2 HB2.out F.bel)) (HK.out.below (below_2 HB2.out F.bel)))
      have HF := Lib.hid (fun w'' hb x hx => F.step FP.mono h0 (show 18 < 26 by decide) (w' := w'') hb (x := x) hx)
      clear F hall h0
      refine wpOp_step (by rfl) (fun K' hK => ?_)
      have HKk := Lib.hid hK
      clear hK
      go_simp
      go_at_call 20
      refine HC.out.mono ?_; rintro e' w5 ⟨rfl, hb5⟩
      have HF5 := Lib.hid (HF.out w5 hb5 _ (show PC.holds (.eq (.int .i64 z)) (.int .i64 z) w5 from rfl))
      exact HKk.out _ _ ⟨_, _, _, _, _, _, _, _, _, _, _, _, _, _, _, _, _, _, _, _, _, _, _, _, _, _, rfl, HF5.out⟩
    | 19, _, h0, hall =>
      obtain rfl : v14 = .bool true := F.f 14 (hall 14 (by decide +kernel))
      obtain rfl : v18 = .int .i64 z := F.f 18 (hall 18 (by decide +kernel))
      have hzb := HZB.out
      have HF := Lib.hid (F.step FP.mono h0 (show 19 < 26 by decide) (Below.refl _ _) (x := .bool zb) rfl)
      clear F hall h0
      refine wpOp_step (by rfl) (fun K' hK => ?_)
      have HKk := Lib.hid hK
      clear hK
      go_simp
      exact HKk.out _ _ ⟨_, _, _, _, _, _, _, _, _, _, _, _, _, _, _, _, _, _, _, _, _, _, _, _, _, _, rfl, HF.out⟩
    | 20, _, h0, hall =>
      obtain rfl : v14 = .bool true := F.f 14 (hall 14 (by decide +kernel))
      obtain rfl : v16 = .bool zb := F.f 16 (hall 16 (by decide +kernel))
      obtain rfl : v19 = .bool zb := F.f 19 (hall 19 (by decide +kernel))
      have HF := Lib.hid (F.step FP.mono h0 (show 20 < 26 by decide) (Below.refl _ _) (x := .bool true) rfl)
      clear F hall h0
      refine wpOp_step (by rfl) (fun K' hK => ?_)
      have HKk := Lib.hid hK
      clear hK
      go_simp
      exact HKk.out _ _ ⟨_, _, _, _, _, _, _, _, _, _, _, _, _, _, _, _, _, _, _, _, _, _, _, _, _, _, rfl, HF.out⟩
    | 21, _, h0, hall =>
      obtain rfl : v14 = .bool true := F.f 14 (hall 14 (by decide +kernel))
      obtain rfl : v20 = .bool true := F.f 20 (hall 20 (by decide +kernel))
      have HF := Lib.hid (F.step FP.mono h0 (show 21 < 26 by decide) (Below.refl _ _) (x := .bool true) rfl)
      clear F hall h0
      refine wpOp_step (by rfl) (fun K' hK => ?_)
      have HKk := Lib.hid hK
      clear hK
      go_simp
      exact HKk.out _ _ ⟨_, _, _, _, _, _, _, _, _, _, _, _, _, _, _, _, _, _, _, _, _, _, _, _, _, _, rfl, HF.out⟩
    | 22, _, h0, hall =>
      obtain rfl : v21 = .bool true := F.f 21 (hall 21 (by decide +kernel))
      have HF := Lib.hid (F.step FP.mono h0 (show 22 < 26 by decide) (Below.refl _ _) (x := .bool true) rfl)
      clear F hall h0
      refine wpOp_step (by rfl) (fun K' hK => ?_)
      have HKk := Lib.hid hK
      clear hK
      go_simp
      exact HKk.out _ _ ⟨_, _, _, _, _, _, _, _, _, _, _, _, _, _, _, _, _, _, _, _, _, _, _, _, _, _, rfl, HF.out⟩
    | 23, _, h0, hall =>
      obtain rfl : v22 = .bool true := F.f 22 (hall 22 (by decide +kernel))
      have HC := Lib.hid (HW.out w' (HT.out.below (below_2 HB2.out F.bel)))
      have HF := Lib.hid (fun w'' hb x hx => F.step FP.mono h0 (show 23 < 26 by decide) (w' := w'') hb (x := x) hx)
      clear F hall h0
      refine wpOp_step (by rfl) (fun K' hK => ?_)
      have HKk := Lib.hid hK
      clear hK
      go_simp
      go_at_call 10
      refine HC.out.mono ?_; rintro e' w5 ⟨rfl, hb5⟩
      have HF5 := Lib.hid (HF.out w5 hb5 _ (show PC.holds (.eq (.bool true)) (.bool true) w5 from rfl))
      exact HKk.out _ _ ⟨_, _, _, _, _, _, _, _, _, _, _, _, _, _, _, _, _, _, _, _, _, _, _, _, _, _, rfl, HF5.out⟩
    | 24, _, h0, hall =>
      obtain rfl : v22 = .bool true := F.f 22 (hall 22 (by decide +kernel))
      obtain rfl : v23 = .bool true := F.f 23 (hall 23 (by decide +kernel))
      have HF := Lib.hid (F.step FP.mono h0 (show 24 < 26 by decide) (Below.refl _ _) (x := .bool true) rfl)
      clear F hall h0
      refine wpOp_step (by rfl) (fun K' hK => ?_)
      have HKk := Lib.hid hK
      clear hK
      go_simp
      exact HKk.out _ _ ⟨_, _, _, _, _, _, _, _, _, _, _, _, _, _, _, _, _, _, _, _, _, _, _, _, _, _, rfl, HF.out⟩
    | 25, _, h0, hall =>
      obtain rfl : v24 = .bool true := F.f 24 (hall 24 (by decide +kernel))
      have HF := Lib.hid (F.step FP.mono h0 (show 25 < 26 by decide) (Below.refl _ _) (x := .bool true) rfl)
      clear F hall h0
      refine wpOp_step (by rfl) (fun K' hK => ?_)
      have HKk := Lib.hid hK
      clear hK
      go_simp
      exact HKk.out _ _ ⟨_, _, _, _, _, _, _, _, _, _, _, _, _, _, _, _, _, _, _, _, _, _, _, _, _, _, rfl, HF.out⟩
    | i + 26, hi, _, _ => exact absurd hi (by show ¬ (i + 26 < 26); omega)
  rintro l9 a wf ⟨r0, r1, r2, r3, r4, r5, r6, r7, r8, r9, r10, r11, r12, r13, r14, r15, r16, r17, r18, r19, r20, r21, r22, r23, r24, r25, rfl, F⟩ hall
  obtain rfl : r25 = .bool true := F.f 25 (hall 25 (by decide))
  have HBf := Lib.hid (below_2 HB0.out (below_2 HB2.out F.bel))
  clear F hall
  go_wp2_with fail
  go_ret
  exact ⟨rfl, HBf.out⟩
end Go.Proofs.YtnelpgeiioflmaaGreatDoor.F
