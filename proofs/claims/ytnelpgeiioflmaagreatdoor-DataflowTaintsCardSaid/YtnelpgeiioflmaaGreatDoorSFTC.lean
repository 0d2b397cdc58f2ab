/-
  The laws of layer 14: Tainted is the specification's.
-/
import Derived.Test.YtnelpgeiioflmaaGreatDoorM25
namespace Go.Proofs.YtnelpgeiioflmaaGreatDoor.F
open Go.RowKit
open L (Str isName prt size_len below_2 below_box ret_bool ret_int eql_eq bytes_eq)
open A (Ex St Pm Pr Bx PmsAt StrsAt PrIn OkP prV prO names cB SmP small GivesN GivesV walk exprs)
open Y (chk Tb)
open P (On off_of on_set wp_region_inv IS)

set_option maxHeartbeats 8000000 in
set_option maxRecDepth 100000 in
theorem lawTaints_core (hwk : Wk) (p : Pr) (a1 a2 : Option Addr) (c1 c2 : Nat) (hok : OkP p) (hc1 : p.params.length ≤ c1) (w : World) (ht : Tb w) (hK : PrIn w p a1 a2) :
    Calls Tryz.prog 3 #[prV p a1 c1 a2 c2] w fun e' w' => e' = .returned (.bool true) ∧ Below w.heap.size w w' := by
  have hb := below_box w (prO p a1 c1 a2 c2)
  have hbx := Bx.new w #[.string p.name, .slice a1 p.params.length c1, .slice a2 p.body.length c2] 25
  have HS := Lib.hid (A.rsmall_any p a1 c1 a2 c2 600 (by omega) hok _ (hK.below hb))
  have HW := Lib.hid hwk
  have HT := Lib.hid (ht.below hb)
  have HX := Lib.hid hbx
  have HK := Lib.hid (hK.below hb)
  have HB0 := Lib.hid hb
  have HSm : Hid (small p 600 = true → Sm p a1 a2 c1 c2) := fun h => sm_of (m := 600) (by omega) hok hc1 (A.small_smp h)
  unfold prV at HS ⊢
  unfold prO at *
  generalize small p 600 = sm at *
  clear hb hbx hok hc1 ht hK hwk
  have x0 := HX.out.cell 0
  have x1 := HX.out.cell 1
  have x2 := HX.out.cell 2
  simp only [List.getElem?_toArray, List.getElem?_cons_zero, List.getElem?_cons_succ] at x0 x1 x2
  cases sm with
  | false =>
    go_enter Tryz.func3, Tryz.ntmps3
    go_wp2_with fail
    refine HS.out.mono ?_; rintro e' w2 ⟨rfl, hb2⟩
    have HB2 := Lib.hid (below_2 HB0.out hb2)
    have HT2 := Lib.hid (HT.out.below hb2)
    clear hb2 x0 x1 x2
    go_wp2_with fail
    refine (HW.out _ HT2.out).mono ?_; rintro e' w8 ⟨rfl, hb8⟩
    have HB8 := Lib.hid (below_2 HB2.out hb8)
    clear hb8
    go_wp2_with fail
    go_ret
    exact ⟨rfl, HB8.out⟩
  | true =>
  obtain ⟨oT, oK, oC, oI, ck, nm, rT, wk, hln⟩ := HSm.out (by trivial)
  have HOT := Lib.hid oT
  have HRT := Lib.hid rT
  clear oT oK oC oI ck nm rT wk HSm
  unfold prV at HOT HRT
  obtain ⟨R, hR⟩ : ∃ R, taint p = R := ⟨_, rfl⟩
  rw [hR] at HOT HRT hln
  clear hR
  have HSt : Hid (∀ w' q qc r rc, StrsAt w' q R → StrsAt w' r R → Calls Tryz.prog 11 #[.slice q R.length qc, .slice r R.length rc] w' fun e' w'' => e' = .returned (.bool true) ∧ Below w'.heap.size w' w'') := fun w' q qc r rc h1 h2 => by
    have := lstrings_any R R q r qc rc (by omega) w' h1 h2
    rw [decide_eq_true rfl] at this
    exact this
  go_enter Tryz.func3, Tryz.ntmps3
  go_wp2_with fail
  refine HS.out.mono ?_; rintro e' w2 ⟨rfl, hb2⟩
  have HB2 := Lib.hid hb2
  clear hb2 x0 x1 x2
  go_upto_region 3 with fail
  refine wp_region_inv rfl (fun l a w' => ∃ v0 v1 v2 v3 v4 v5 v6 v7 v8 : Value, a = { tmps := #[Value.agg #[Value.string p.name, Value.slice a1 p.params.length c1, Value.slice a2 p.body.length c2], Value.pointer (some { block := w.heap.size, off := 0 }), v8, Value.agg #[Value.string p.name, Value.slice a1 p.params.length c1, Value.slice a2 p.body.length c2], Value.bool true, Value.bool false, undef, v0, v1, v2, v3, v4, v5, v6, v7], defers := [] } ∧ IS (FP [.eq (.agg #[.string p.name, .slice a1 p.params.length c1, .slice a2 p.body.length c2]), .strs R, .eq (.agg #[.string p.name, .slice a1 p.params.length c1, .slice a2 p.body.length c2]), .strs R, .eq (.bool true), .eq (.bool true), .eq (.bool true), .eq (.bool true), .eq (.bool true)]) w2 l w' [v0, v1, v2, v3, v4, v5, v6, v7, v8]) (by kernel_rfl) ?_ ?_ ?_
  · intro l hl
    exact ⟨_, _, _, _, _, _, _, _, _, rfl, IS.start _ _ hl _⟩
  · rintro l a w' ⟨v0, v1, v2, v3, v4, v5, v6, v7, v8, rfl, F⟩ i hi h0 hall
    match i, hi, h0, hall with
    | 0, _, h0, hall =>
      have hxx := HX.out.below (below_2 HB2.out F.bel)
      have q0 := hxx.cell 0
      have q1 := hxx.cell 1
      have q2 := hxx.cell 2
      simp only [List.getElem?_toArray, List.getElem?_cons_zero, List.getElem?_cons_succ] at q0 q1 q2
      clear hxx
      have HF := Lib.hid (F.step FP.mono h0 (show 0 < 9 by decide) (Below.refl _ _) (x := .agg #[.string p.name, .slice a1 p.params.length c1, .slice a2 p.body.length c2]) rfl)
      clear F hall h0
      refine wpOp_step (by rfl) (fun K' hK => ?_)
      have HKk := Lib.hid hK
      clear hK
      go_simp
      exact HKk.out _ _ ⟨_, _, _, _, _, _, _, _, _, rfl, HF.out⟩
    | 1, _, h0, hall =>
      obtain rfl : v0 = .agg #[.string p.name, .slice a1 p.params.length c1, .slice a2 p.body.length c2] := F.f 0 (hall 0 (by decide +kernel))
      have HC := Lib.hid (HOT.out w' (HT.out.below (below_2 HB2.out F.bel)) (HK.out.below (below_2 HB2.out F.bel)))
      have HF := Lib.hid (fun w'' hb x hx => F.step FP.mono h0 (show 1 < 9 by decide) (w' := w'') hb (x := x) hx)
      clear F hall h0
      refine wpOp_step (by rfl) (fun K' hK => ?_)
      have HKk := Lib.hid hK
      clear hK
      go_simp
      go_at_call 12
      refine HC.out.mono ?_; rintro e' w5 ⟨p5, q5, rfl, hq5, hp5, hb5⟩
      have HF5 := Lib.hid (HF.out w5 hb5 _ (show PC.holds (.strs R) (.slice p5 R.length q5) w5 from ⟨p5, q5, rfl, hp5⟩))
      exact HKk.out _ _ ⟨_, _, _, _, _, _, _, _, _, rfl, HF5.out⟩
    | 2, _, h0, hall =>
      have hxx := HX.out.below (below_2 HB2.out F.bel)
      have q0 := hxx.cell 0
      have q1 := hxx.cell 1
      have q2 := hxx.cell 2
      simp only [List.getElem?_toArray, List.getElem?_cons_zero, List.getElem?_cons_succ] at q0 q1 q2
      clear hxx
      have HF := Lib.hid (F.step FP.mono h0 (show 2 < 9 by decide) (Below.refl _ _) (x := .agg #[.string p.name, .slice a1 p.params.length c1, .slice a2 p.body.length c2]) rfl)
      clear F hall h0
      refine wpOp_step (by rfl) (fun K' hK => ?_)
      have HKk := Lib.hid hK
      clear hK
      go_simp
      exact HKk.out _ _ ⟨_, _, _, _, _, _, _, _, _, rfl, HF.out⟩
    | 3, _, h0, hall =>
      obtain rfl : v2 = .agg #[.string p.name, .slice a1 p.params.length c1, .slice a2 p.body.length c2] := F.f 2 (hall 2 (by decide +kernel))
      have HC := Lib.hid (HRT.out w' (HT.out.below (below_2 HB2.out F.bel)) (HK.out.below (below_2 HB2.out F.bel)))
      have HF := Lib.hid (fun w'' hb x hx => F.step FP.mono h0 (show 3 < 9 by decide) (w' := w'') hb (x := x) hx)
      clear F hall h0
      refine wpOp_step (by rfl) (fun K' hK => ?_)
      have HKk := Lib.hid hK
      clear hK
      go_simp
      go_at_call 13
      refine HC.out.mono ?_; rintro e' w5 ⟨p5, q5, rfl, hq5, hp5, hb5⟩
      have HF5 := Lib.hid (HF.out w5 hb5 _ (show PC.holds (.strs R) (.slice p5 R.length q5) w5 from ⟨p5, q5, rfl, hp5⟩))
      exact HKk.out _ _ ⟨_, _, _, _, _, _, _, _, _, rfl, HF5.out⟩
    | 4, _, h0, hall =>
      obtain ⟨p1, q1, rfl, hp1⟩ : ∃ p q, v1 = .slice p R.length q ∧ StrsAt w' p R := F.f 1 (hall 1 (by decide +kernel))
      obtain ⟨p3, q3, rfl, hp3⟩ : ∃ p q, v3 = .slice p R.length q ∧ StrsAt w' p R := F.f 3 (hall 3 (by decide +kernel))
      have HC := Lib.hid (HSt.out w' p1 q1 p3 q3 hp1 hp3)
      have HF := Lib.hid (fun w'' hb x hx => F.step FP.mono h0 (show 4 < 9 by decide) (w' := w'') hb (x := x) hx)
      clear F hall h0
      refine wpOp_step (by rfl) (fun K' hK => ?_)
      have HKk := Lib.hid hK
      clear hK
      go_simp
      go_at_call 11
      refine HC.out.mono ?_; rintro e' w5 ⟨rfl, hb5⟩
      have HF5 := Lib.hid (HF.out w5 hb5 _ (show PC.holds (.eq (.bool true)) (.bool true) w5 from rfl))
      exact HKk.out _ _ ⟨_, _, _, _, _, _, _, _, _, rfl, HF5.out⟩
    | 5, _, h0, hall =>
      obtain rfl : v4 = .bool true := F.f 4 (hall 4 (by decide +kernel))
      have HF := Lib.hid (F.step FP.mono h0 (show 5 < 9 by decide) (Below.refl _ _) (x := .bool true) rfl)
      clear F hall h0
      refine wpOp_step (by rfl) (fun K' hK => ?_)
      have HKk := Lib.hid hK
      clear hK
      go_simp
      exact HKk.out _ _ ⟨_, _, _, _, _, _, _, _, _, rfl, HF.out⟩
    | 6, _, h0, hall =>
      obtain rfl : v5 = .bool true := F.f 5 (hall 5 (by decide +kernel))
      have HC := Lib.hid (HW.out w' (HT.out.below (below_2 HB2.out F.bel)))
      have HF := Lib.hid (fun w'' hb x hx => F.step FP.mono h0 (show 6 < 9 by decide) (w' := w'') hb (x := x) hx)
      clear F hall h0
      refine wpOp_step (by rfl) (fun K' hK => ?_)
      have HKk := Lib.hid hK
      clear hK
      go_simp
      go_at_call 10
      refine HC.out.mono ?_; rintro e' w5 ⟨rfl, hb5⟩
      have HF5 := Lib.hid (HF.out w5 hb5 _ (show PC.holds (.eq (.bool true)) (.bool true) w5 from rfl))
      exact HKk.out _ _ ⟨_, _, _, _, _, _, _, _, _, rfl, HF5.out⟩
    | 7, _, h0, hall =>
      obtain rfl : v5 = .bool true := F.f 5 (hall 5 (by decide +kernel))
      obtain rfl : v6 = .bool true := F.f 6 (hall 6 (by decide +kernel))
      have HF := Lib.hid (F.step FP.mono h0 (show 7 < 9 by decide) (Below.refl _ _) (x := .bool true) rfl)
      clear F hall h0
      refine wpOp_step (by rfl) (fun K' hK => ?_)
      have HKk := Lib.hid hK
      clear hK
      go_simp
      exact HKk.out _ _ ⟨_, _, _, _, _, _, _, _, _, rfl, HF.out⟩
    | 8, _, h0, hall =>
      obtain rfl : v7 = .bool true := F.f 7 (hall 7 (by decide +kernel))
      have HF := Lib.hid (F.step FP.mono h0 (show 8 < 9 by decide) (Below.refl _ _) (x := .bool true) rfl)
      clear F hall h0
      refine wpOp_step (by rfl) (fun K' hK => ?_)
      have HKk := Lib.hid hK
      clear hK
      go_simp
      exact HKk.out _ _ ⟨_, _, _, _, _, _, _, _, _, rfl, HF.out⟩
    | i + 9, hi, _, _ => exact absurd hi (by show ¬ (i + 9 < 9); omega)
  rintro l9 a wf ⟨r0, r1, r2, r3, r4, r5, r6, r7, r8, rfl, F⟩ hall
  obtain rfl : r8 = .bool true := F.f 8 (hall 8 (by decide))
  have HBf := Lib.hid (below_2 HB0.out (below_2 HB2.out F.bel))
  clear F hall
  go_wp2_with fail
  go_ret
  exact ⟨rfl, HBf.out⟩
end Go.Proofs.YtnelpgeiioflmaaGreatDoor.F
