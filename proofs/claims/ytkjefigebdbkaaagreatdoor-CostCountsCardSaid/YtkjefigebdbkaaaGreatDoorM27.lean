/-
  The law package of layer 13: of: a contract.
  The law package of layer 13: the example: contract.
  What the reference of layer 13 returns: Of, Check: contracts. The laws of layer 13: Steps, Gets, Puts, Emits and Check agree with the specification.
-/
import Derived.Test.YtkjefigebdbkaaaGreatDoorM26
import Derived.Test.YtkjefigebdbkaaaGreatDoorM24
import Derived.Test.YtkjefigebdbkaaaGreatDoorM08
namespace Go.Proofs.YtkjefigebdbkaaaGreatDoor.Q
open Go.RowKit
open A (Ex St Pr Bx okB okS cE cB cS Bodies OkP PrIn prV prO)
open L (below_2 below_box ret_bool ret_int)
open P (On on_set off_of wp_region_inv IS FT)

set_option maxHeartbeats 8000000 in
set_option maxRecDepth 100000 in
theorem lof_any (p : Pr) (a1 a2 : Option Addr) (c1 c2 : Nat) (hok : OkP p) (hc1 : p.params.length ≤ c1) (w : World) (ht : Y.Tb w) (hK : PrIn w p a1 a2) :
    Calls Tryz.prog 14 #[prV p a1 c1 a2 c2] w fun e' w' => e' = .returned (ciV (cst p)) ∧ Below w.heap.size w w' := by
  obtain ⟨W1, e1⟩ : ∃ z, z = w.alloc (.cells #[.string p.name, .slice a1 p.params.length c1, .slice a2 p.body.length c2] 25) := ⟨_, rfl⟩
  have bb1 : Below w.heap.size w W1 := by rw [e1]; exact below_box _ _
  have xx1 := Bx.new w #[.string p.name, .slice a1 p.params.length c1, .slice a2 p.body.length c2] 25
  rw [← e1] at xx1
  have s1 : W1.heap.size = w.heap.size + 1 := by rw [e1]; simp
  obtain ⟨W2, e2⟩ : ∃ z, z = W1.alloc (.cells #[.int .i64 0, .int .i64 0, .int .i64 0, .int .i64 0] 34) := ⟨_, rfl⟩
  have bb2 : Below W1.heap.size W1 W2 := by rw [e2]; exact below_box _ _
  have xx2 := Bx.new W1 #[.int .i64 0, .int .i64 0, .int .i64 0, .int .i64 0] 34
  rw [← e2] at xx2
  rw [s1] at xx2
  have HB := Lib.hid (below_2 bb1 bb2)
  have HX := Lib.hid (xx1.below bb2)
  have HZ := Lib.hid xx2
  have HW : Hid ((w.alloc (.cells #[.string p.name, .slice a1 p.params.length c1, .slice a2 p.body.length c2] 25)).alloc (.cells #[.int .i64 0, .int .i64 0, .int .i64 0, .int .i64 0] 34) = W2) := by show _ = _; rw [← e1, ← e2]
  have HSteps := Lib.hid (fun w' (hb : Below W2.heap.size W2 w') => oSteps_any p a1 a2 c1 c2 hok hc1 w' (ht.below (below_2 HB.out hb)) (hK.below (below_2 HB.out hb)))
  have HGets := Lib.hid (fun w' (hb : Below W2.heap.size W2 w') => oGets_any p a1 a2 c1 c2 hok hc1 w' (ht.below (below_2 HB.out hb)) (hK.below (below_2 HB.out hb)))
  have HPuts := Lib.hid (fun w' (hb : Below W2.heap.size W2 w') => oPuts_any p a1 a2 c1 c2 hok hc1 w' (ht.below (below_2 HB.out hb)) (hK.below (below_2 HB.out hb)))
  have HEmits := Lib.hid (fun w' (hb : Below W2.heap.size W2 w') => oEmits_any p a1 a2 c1 c2 hok hc1 w' (ht.below (below_2 HB.out hb)) (hK.below (below_2 HB.out hb)))
  generalize cst p = C at *
  obtain ⟨C0, C1, C2, C3⟩ := C
  clear e1 e2 bb1 bb2 xx1 xx2 s1 hok hc1 ht hK
  unfold prV at *
  go_enter Tryz.func14, Tryz.ntmps14
  go_upto_region 1 with fail
  rw [HW.out]
  refine wp_region_inv rfl (fun l a w' => ∃ v0 v1 v2 v3 v4 v5 v6 v7 v8 : Value, a = { tmps := #[Value.agg #[.string p.name, .slice a1 p.params.length c1, .slice a2 p.body.length c2], Value.pointer (some { block := w.heap.size, off := 0 }), Value.pointer (some { block := w.heap.size + 1, off := 0 }), v0, v1, v2, v3, v4, v5, v6, v7, v8], defers := [] } ∧ ((¬ On l 9 ∧ IS (FT [some (.agg #[.string p.name, .slice a1 p.params.length c1, .slice a2 p.body.length c2]), some (.int .i64 C0), some (.agg #[.string p.name, .slice a1 p.params.length c1, .slice a2 p.body.length c2]), some (.int .i64 C1), some (.agg #[.string p.name, .slice a1 p.params.length c1, .slice a2 p.body.length c2]), some (.int .i64 C2), some (.agg #[.string p.name, .slice a1 p.params.length c1, .slice a2 p.body.length c2]), some (.int .i64 C3), some (.agg #[.int .i64 C0, .int .i64 C1, .int .i64 C2, .int .i64 C3])] 34 #[.int .i64 0, .int .i64 0, .int .i64 0, .int .i64 0] (0)) W2 l w' [v0, v1, v2, v3, v4, v5, v6, v7, v8]) ∨ (On l 9 ∧ (∀ j, j < 9 → On l j) ∧ Bx w' (w.heap.size + 1) #[.int .i64 C0, .int .i64 C1, .int .i64 C2, .int .i64 C3] 34 ∧ Below w.heap.size w w'))) (by kernel_rfl) ?_ ?_ ?_
  · intro l hl
    exact ⟨_, _, _, _, _, _, _, _, _, rfl, Or.inl ⟨hl 9, IS.start _ _ hl _⟩⟩
  · rintro l a w' ⟨v0, v1, v2, v3, v4, v5, v6, v7, v8, rfl, hF⟩ i hi h0 hall
    have hF2 : i < 9 → ¬ On l 9 ∧ IS (FT [some (.agg #[.string p.name, .slice a1 p.params.length c1, .slice a2 p.body.length c2]), some (.int .i64 C0), some (.agg #[.string p.name, .slice a1 p.params.length c1, .slice a2 p.body.length c2]), some (.int .i64 C1), some (.agg #[.string p.name, .slice a1 p.params.length c1, .slice a2 p.body.length c2]), some (.int .i64 C2), some (.agg #[.string p.name, .slice a1 p.params.length c1, .slice a2 p.body.length c2]), some (.int .i64 C3), some (.agg #[.int .i64 C0, .int .i64 C1, .int .i64 C2, .int .i64 C3])] 34 #[.int .i64 0, .int .i64 0, .int .i64 0, .int .i64 0] (0)) W2 l w' [v0, v1, v2, v3, v4, v5, v6, v7, v8] := fun h => hF.resolve_right (fun z => off_of h0 (z.2.1 i h))
    match i, hi, h0, hall, hF2 with
    | 0, _, h0, hall, hF2 =>
      obtain ⟨hnm, F⟩ := hF2 (by decide)
      have HNm : Hid (¬ On (l.setIfInBounds 0 true) 9) := fun z => hnm (((on_set h0 9).1 z).resolve_left (by decide))
      clear hF hF2 hnm
      have hxx := HX.out.below F.bel
      have q0 := hxx.cell 0
      have q1 := hxx.cell 1
      have q2 := hxx.cell 2
      simp only [List.getElem?_toArray, List.getElem?_cons_zero, List.getElem?_cons_succ] at q0 q1 q2
      clear hxx
      have HF := Lib.hid (F.step FT.mono h0 (show 0 < 9 by decide) (Below.refl _ _) (x := .agg #[.string p.name, .slice a1 p.params.length c1, .slice a2 p.body.length c2]) rfl)
      clear F hall h0
      refine wpOp_step (by rfl) (fun K' hK => ?_)
      have HKk := Lib.hid hK
      clear hK
      go_simp
      exact HKk.out _ _ ⟨_, _, _, _, _, _, _, _, _, rfl, Or.inl ⟨HNm.out, HF.out⟩⟩
    | 1, _, h0, hall, hF2 =>
      obtain ⟨hnm, F⟩ := hF2 (by decide)
      have HNm : Hid (¬ On (l.setIfInBounds 1 true) 9) := fun z => hnm (((on_set h0 9).1 z).resolve_left (by decide))
      clear hF hF2 hnm
      obtain rfl : v0 = .agg #[.string p.name, .slice a1 p.params.length c1, .slice a2 p.body.length c2] := F.f 0 (hall 0 (by decide +kernel))
      have HC := Lib.hid (HSteps.out w' F.bel)
      have HF := Lib.hid (fun w'' hb x hx => F.step FT.mono h0 (show 1 < 9 by decide) (w' := w'') hb (x := x) hx)
      clear F hall h0
      refine wpOp_step (by rfl) (fun K' hK => ?_)
      have HKk := Lib.hid hK
      clear hK
      go_simp
      go_at_call 30
      refine HC.out.mono ?_; rintro e' w5 ⟨rfl, hb5⟩
      have HF5 := Lib.hid (HF.out w5 hb5 (.int .i64 C0) rfl)
      exact HKk.out _ _ ⟨_, _, _, _, _, _, _, _, _, rfl, Or.inl ⟨HNm.out, HF5.out⟩⟩
    | 2, _, h0, hall, hF2 =>
      obtain ⟨hnm, F⟩ := hF2 (by decide)
      have HNm : Hid (¬ On (l.setIfInBounds 2 true) 9) := fun z => hnm (((on_set h0 9).1 z).resolve_left (by decide))
      clear hF hF2 hnm
      have hxx := HX.out.below F.bel
      have q0 := hxx.cell 0
      have q1 := hxx.cell 1
      have q2 := hxx.cell 2
      simp only [List.getElem?_toArray, List.getElem?_cons_zero, List.getElem?_cons_succ] at q0 q1 q2
      clear hxx
      have HF := Lib.hid (F.step FT.mono h0 (show 2 < 9 by decide) (Below.refl _ _) (x := .agg #[.string p.name, .slice a1 p.params.length c1, .slice a2 p.body.length c2]) rfl)
      clear F hall h0
      refine wpOp_step (by rfl) (fun K' hK => ?_)
      have HKk := Lib.hid hK
      clear hK
      go_simp
      exact HKk.out _ _ ⟨_, _, _, _, _, _, _, _, _, rfl, Or.inl ⟨HNm.out, HF.out⟩⟩
    | 3, _, h0, hall, hF2 =>
      obtain ⟨hnm, F⟩ := hF2 (by decide)
      have HNm : Hid (¬ On (l.setIfInBounds 3 true) 9) := fun z => hnm (((on_set h0 9).1 z).resolve_left (by decide))
      clear hF hF2 hnm
      obtain rfl : v2 = .agg #[.string p.name, .slice a1 p.params.length c1, .slice a2 p.body.length c2] := F.f 2 (hall 2 (by decide +kernel))
      have HC := Lib.hid (HGets.out w' F.bel)
      have HF := Lib.hid (fun w'' hb x hx => F.step FT.mono h0 (show 3 < 9 by decide) (w' := w'') hb (x := x) hx)
      clear F hall h0
      refine wpOp_step (by rfl) (fun K' hK => ?_)
      have HKk := Lib.hid hK
      clear hK
      go_simp
      go_at_call 31
      refine HC.out.mono ?_; rintro e' w5 ⟨rfl, hb5⟩
      have HF5 := Lib.hid (HF.out w5 hb5 (.int .i64 C1) rfl)
      exact HKk.out _ _ ⟨_, _, _, _, _, _, _, _, _, rfl, Or.inl ⟨HNm.out, HF5.out⟩⟩
    | 4, _, h0, hall, hF2 =>
      obtain ⟨hnm, F⟩ := hF2 (by decide)
      have HNm : Hid (¬ On (l.setIfInBounds 4 true) 9) := fun z => hnm (((on_set h0 9).1 z).resolve_left (by decide))
      clear hF hF2 hnm
      have hxx := HX.out.below F.bel
      have q0 := hxx.cell 0
      have q1 := hxx.cell 1
      have q2 := hxx.cell 2
      simp only [List.getElem?_toArray, List.getElem?_cons_zero, List.getElem?_cons_succ] at q0 q1 q2
      clear hxx
      have HF := Lib.hid (F.step FT.mono h0 (show 4 < 9 by decide) (Below.refl _ _) (x := .agg #[.string p.name, .slice a1 p.params.length c1, .slice a2 p.body.length c2]) rfl)
      clear F hall h0
      refine wpOp_step (by rfl) (fun K' hK => ?_)
      have HKk := Lib.hid hK
      clear hK
      go_simp
      exact HKk.out _ _ ⟨_, _, _, _, _, _, _, _, _, rfl, Or.inl ⟨HNm.out, HF.out⟩⟩
    | 5, _, h0, hall, hF2 =>
      obtain ⟨hnm, F⟩ := hF2 (by decide)
      have HNm : Hid (¬ On (l.setIfInBounds 5 true) 9) := fun z => hnm (((on_set h0 9).1 z).resolve_left (by decide))
      clear hF hF2 hnm
      obtain rfl : v4 = .agg #[.string p.name, .slice a1 p.params.length c1, .slice a2 p.body.length c2] := F.f 4 (hall 4 (by decide +kernel))
      have HC := Lib.hid (HPuts.out w' F.bel)
      have HF := Lib.hid (fun w'' hb x hx => F.step FT.mono h0 (show 5 < 9 by decide) (w' := w'') hb (x := x) hx)
      clear F hall h0
      refine wpOp_step (by rfl) (fun K' hK => ?_)
      have HKk := Lib.hid hK
      clear hK
      go_simp
      go_at_call 32
      refine HC.out.mono ?_; rintro e' w5 ⟨rfl, hb5⟩
      have HF5 := Lib.hid (HF.out w5 hb5 (.int .i64 C2) rfl)
      exact HKk.out _ _ ⟨_, _, _, _, _, _, _, _, _, rfl, Or.inl ⟨HNm.out, HF5.out⟩⟩
    | 6, _, h0, hall, hF2 =>
      obtain ⟨hnm, F⟩ := hF2 (by decide)
      have HNm : Hid (¬ On (l.setIfInBounds 6 true) 9) := fun z => hnm (((on_set h0 9).1 z).resolve_left (by decide))
      clear hF hF2 hnm
      have hxx := HX.out.below F.bel
      have q0 := hxx.cell 0
      have q1 := hxx.cell 1
      have q2 := hxx.cell 2
      simp only [List.getElem?_toArray, List.getElem?_cons_zero, List.getElem?_cons_succ] at q0 q1 q2
      clear hxx
      have HF := Lib.hid (F.step FT.mono h0 (show 6 < 9 by decide) (Below.refl _ _) (x := .agg #[.string p.name, .slice a1 p.params.length c1, .slice a2 p.body.length c2]) rfl)
      clear F hall h0
      refine wpOp_step (by rfl) (fun K' hK => ?_)
      have HKk := Lib.hid hK
      clear hK
      go_simp
      exact HKk.out _ _ ⟨_, _, _, _, _, _, _, _, _, rfl, Or.inl ⟨HNm.out, HF.out⟩⟩
    | 7, _, h0, hall, hF2 =>
      obtain ⟨hnm, F⟩ := hF2 (by decide)
      have HNm : Hid (¬ On (l.setIfInBounds 7 true) 9) := fun z => hnm (((on_set h0 9).1 z).resolve_left (by decide))
      clear hF hF2 hnm
      obtain rfl : v6 = .agg #[.string p.name, .slice a1 p.params.length c1, .slice a2 p.body.length c2] := F.f 6 (hall 6 (by decide +kernel))
      have HC := Lib.hid (HEmits.out w' F.bel)
      have HF := Lib.hid (fun w'' hb x hx => F.step FT.mono h0 (show 7 < 9 by decide) (w' := w'') hb (x := x) hx)
      clear F hall h0
      refine wpOp_step (by rfl) (fun K' hK => ?_)
      have HKk := Lib.hid hK
      clear hK
      go_simp
      go_at_call 33
      refine HC.out.mono ?_; rintro e' w5 ⟨rfl, hb5⟩
      have HF5 := Lib.hid (HF.out w5 hb5 (.int .i64 C3) rfl)
      exact HKk.out _ _ ⟨_, _, _, _, _, _, _, _, _, rfl, Or.inl ⟨HNm.out, HF5.out⟩⟩
    | 8, _, h0, hall, hF2 =>
      obtain ⟨hnm, F⟩ := hF2 (by decide)
      have HNm : Hid (¬ On (l.setIfInBounds 8 true) 9) := fun z => hnm (((on_set h0 9).1 z).resolve_left (by decide))
      clear hF hF2 hnm
      obtain rfl : v1 = .int .i64 C0 := F.f 1 (hall 1 (by decide +kernel))
      obtain rfl : v3 = .int .i64 C1 := F.f 3 (hall 3 (by decide +kernel))
      obtain rfl : v5 = .int .i64 C2 := F.f 5 (hall 5 (by decide +kernel))
      obtain rfl : v7 = .int .i64 C3 := F.f 7 (hall 7 (by decide +kernel))
      have HF := Lib.hid (F.step FT.mono h0 (show 8 < 9 by decide) (Below.refl _ _) (x := .agg #[.int .i64 C0, .int .i64 C1, .int .i64 C2, .int .i64 C3]) rfl)
      clear F hall h0
      refine wpOp_step (by rfl) (fun K' hK => ?_)
      have HKk := Lib.hid hK
      clear hK
      go_simp
      exact HKk.out _ _ ⟨_, _, _, _, _, _, _, _, _, rfl, Or.inl ⟨HNm.out, HF.out⟩⟩
    | 9, _, h0, hall, _ =>
      obtain ⟨_, F⟩ := hF.resolve_right (fun z => off_of h0 z.1)
      obtain rfl : v8 = .agg #[.int .i64 C0, .int .i64 C1, .int .i64 C2, .int .i64 C3] := F.f 8 (hall 8 (by decide +kernel))
      have hZZ := HZ.out.below F.bel
      obtain ⟨q0, q1, q2, q3, q4, q5, q6, q7⟩ := four_open (hZZ)
      have HFin : Hid (On (l.setIfInBounds 9 true) 9 ∧ (∀ j, j < 9 → On (l.setIfInBounds 9 true) j) ∧ Bx ((((w'.setCell ⟨w.heap.size + 1, 0, none⟩ (.int .i64 C0)).setCell ⟨w.heap.size + 1, 1, none⟩ (.int .i64 C1)).setCell ⟨w.heap.size + 1, 2, none⟩ (.int .i64 C2)).setCell ⟨w.heap.size + 1, 3, none⟩ (.int .i64 C3)) (w.heap.size + 1) #[.int .i64 C0, .int .i64 C1, .int .i64 C2, .int .i64 C3] 34 ∧ Below w.heap.size w ((((w'.setCell ⟨w.heap.size + 1, 0, none⟩ (.int .i64 C0)).setCell ⟨w.heap.size + 1, 1, none⟩ (.int .i64 C1)).setCell ⟨w.heap.size + 1, 2, none⟩ (.int .i64 C2)).setCell ⟨w.heap.size + 1, 3, none⟩ (.int .i64 C3))) :=
        ⟨(on_set h0 9).2 (Or.inl rfl), (fun j hj => by
          refine (on_set h0 j).2 (Or.inr (hall j ?_))
          revert hj
          revert j
          decide +kernel), four_set hZZ _ _ _ _, four_below (below_2 HB.out F.bel) (Nat.le_succ _) _ _ _ _⟩
      clear F hall h0 hF hF2
      clear hZZ
      refine wpOp_step (by rfl) (fun K' hK => ?_)
      have HKk := Lib.hid hK
      clear hK
      go_simp
      exact HKk.out _ _ ⟨_, _, _, _, _, _, _, _, _, rfl, Or.inr HFin.out⟩
    | i + 10, hi, _, _, _ => exact absurd hi (by show ¬ (i + 10 < 10); omega)
  rintro l9 a wz ⟨t0, t1, t2, t3, t4, t5, t6, t7, t8, rfl, hF⟩ hall
  obtain ⟨_, _, hZ, hBl⟩ := hF.resolve_left (fun z => z.1 (hall 9 (by decide)))
  clear hF hall
  have q0 := hZ.cell 0
  have q1 := hZ.cell 1
  have q2 := hZ.cell 2
  have q3 := hZ.cell 3
  simp only [List.getElem?_toArray, List.getElem?_cons_zero, List.getElem?_cons_succ] at q0 q1 q2 q3
  have HBL := Lib.hid hBl
  clear hZ hBl
  go_wp2_with fail
  refine bodyPost_ret (v := .agg #[.int .i64 C0, .int .i64 C1, .int .i64 C2, .int .i64 C3]) (by simp [results, Tryz.results14, go_sem, q0, q1, q2, q3]) rfl ?_
  exact ⟨rfl, HBL.out⟩
end Go.Proofs.YtkjefigebdbkaaaGreatDoor.Q
namespace Go.Proofs.YtkjefigebdbkaaaGreatDoor.Q
open Go.RowKit
open A (Ex St Pr Pm exV exO exV_mk okE okEs okB okS cE cB Bx OkP PrIn prV exprs ExAt ExsAt StAt StsAt Bodies Kids)
open L (below_2 below_box ret_bool)

def lf (o n : Int) (s : ByteArray) : Ex := .mk o n s []
def kE : Ex := lf 3 0 ⟨#[107]⟩
def sumE : Ex := .mk 4 0 ⟨#[]⟩ [.mk 22 0 ⟨#[]⟩ [kE], lf 1 1 ⟨#[]⟩]
def putS : St := .mk 3 ⟨#[]⟩ 0 kE sumE [] []
def exP : Pr := ⟨⟨#[112]⟩, [⟨⟨#[107]⟩, 2⟩, ⟨⟨#[110]⟩, 1⟩], [.mk 6 ⟨#[105]⟩ 3 (lf 1 0 ⟨#[]⟩) (lf 3 0 ⟨#[110]⟩) [putS] []]⟩
theorem chk_ex : N.checkN exP = 0 := by kernel_rfl
theorem cst_ex : cst exP = ⟨7, 3, 3, 0⟩ := by kernel_rfl
theorem cost_ex : costE (cst exP) (N.checkN exP) = 0 := by rw [chk_ex, cst_ex]; rfl
theorem okE_lf (o n : Int) (s : ByteArray) (ho : -9223372036854775808 ≤ o ∧ o ≤ 9223372036854775807) (hn : -9223372036854775808 ≤ n ∧ n ≤ 9223372036854775807) (hs : s.size ≤ 1000000000000000) : okE (lf o n s) := by
  unfold lf
  rw [okE, okEs]
  exact ⟨ho, hn, hs, Nat.zero_le _, trivial⟩
theorem ok_k : okE kE := okE_lf _ _ _ (by decide) (by decide) (by decide)
theorem ok_sum : okE sumE := by
  unfold sumE
  rw [okE, okEs, okEs, okEs, okE, okEs, okEs]
  exact ⟨by decide, by decide, by decide, by decide, ⟨by decide, by decide, by decide, by decide, ok_k, trivial⟩, okE_lf _ _ _ (by decide) (by decide) (by decide), trivial⟩
theorem okB_no : okB [] := by rw [okB]; trivial
theorem ok_put : okS putS := by
  unfold putS
  rw [okS]
  exact ⟨by decide, by decide, by decide, ok_k, ok_sum, by decide, okB_no, by decide, okB_no⟩
theorem ok_exP : OkP exP := by
  refine ⟨by decide, by decide, fun j h => ?_, by decide, ?_⟩
  · match j, h with
    | 0, _ => exact (by decide : (1 : Nat) ≤ 1000000000000000)
    | 1, _ => exact (by decide : (1 : Nat) ≤ 1000000000000000)
    | j + 2, h => exact absurd h (by show ¬ (j + 2 < 2); omega)
  · show okB [_]
    rw [okB, okB, okS]
    refine ⟨⟨by decide, by decide, by decide, okE_lf _ _ _ (by decide) (by decide) (by decide), okE_lf _ _ _ (by decide) (by decide) (by decide), by decide, ?_, by decide, okB_no⟩, trivial⟩
    rw [okB, okB]
    exact ⟨ok_put, trivial⟩
theorem at_lf {F : World} {g i : Nat} {o n : Int} {s : ByteArray} (h0 : F.cell? ⟨g, i, none⟩ = some (.int .i64 o)) (h1 : F.cell? ⟨g, i + 1, none⟩ = some (.int .i64 n)) (h2 : F.cell? ⟨g, i + 2, none⟩ = some (.string s)) (h3 : F.cell? ⟨g, i + 3, none⟩ = some (.slice none 0 0)) : ExAt F (lf o n s) g i :=
  ⟨h0, h1, h2, none, 0, h3, Or.inl rfl⟩
structure EB (n : Nat) (F : World) : Prop where
  c0 : Bx F (n) #[.int .i64 3, .int .i64 0, .string ⟨#[107]⟩, .slice none 0 0] 41
  c1 : Bx F (n + 1) #[.int .i64 3, .int .i64 0, .string ⟨#[107]⟩, .slice none 0 0] 41
  c2 : Bx F (n + 1 + 1) #[.int .i64 22, .int .i64 0, .string ⟨#[]⟩, .slice (some ⟨n + 1, 0, none⟩) 1 1, .int .i64 1, .int .i64 1, .string ⟨#[]⟩, .slice none 0 0] 41
  c3 : Bx F (n + 1 + 1 + 1) #[.int .i64 3, .string ⟨#[]⟩, .int .i64 0, .int .i64 3, .int .i64 0, .string ⟨#[107]⟩, .slice none 0 0, .int .i64 4, .int .i64 0, .string ⟨#[]⟩, .slice (some ⟨n + 1 + 1, 0, none⟩) 2 2, .slice none 0 0, .slice none 0 0] 49
  c4 : Bx F (n + 1 + 1 + 1 + 1) #[.string ⟨#[107]⟩, .int .i64 2, .string ⟨#[110]⟩, .int .i64 1] 52
  c5 : Bx F (n + 1 + 1 + 1 + 1 + 1) #[.int .i64 3, .string ⟨#[]⟩, .int .i64 0, .int .i64 3, .int .i64 0, .string ⟨#[107]⟩, .slice none 0 0, .int .i64 4, .int .i64 0, .string ⟨#[]⟩, .slice (some ⟨n + 1 + 1, 0, none⟩) 2 2, .slice none 0 0, .slice none 0 0] 49
  c6 : Bx F (n + 1 + 1 + 1 + 1 + 1 + 1) #[.int .i64 6, .string ⟨#[105]⟩, .int .i64 3, .int .i64 1, .int .i64 0, .string ⟨#[]⟩, .slice none 0 0, .int .i64 3, .int .i64 0, .string ⟨#[110]⟩, .slice none 0 0, .slice (some ⟨n + 1 + 1 + 1 + 1 + 1, 0, none⟩) 1 1, .slice none 0 0] 49
  c7 : Bx F (n + 1 + 1 + 1 + 1 + 1 + 1 + 1) #[.string ⟨#[112]⟩, .slice (some ⟨n + 1 + 1 + 1 + 1, 0, none⟩) 2 2, .slice (some ⟨n + 1 + 1 + 1 + 1 + 1 + 1, 0, none⟩) 1 1] 25
theorem EB.below {n : Nat} {F F' : World} (H : EB n F) (hb : Below F.heap.size F F') : EB n F' :=
  ⟨H.c0.below hb, H.c1.below hb, H.c2.below hb, H.c3.below hb, H.c4.below hb, H.c5.below hb, H.c6.below hb, H.c7.below hb⟩
theorem in_ex {n : Nat} {F : World} (H : EB n F) : PrIn F exP (some ⟨n + 1 + 1 + 1 + 1, 0, none⟩) (some ⟨n + 1 + 1 + 1 + 1 + 1 + 1, 0, none⟩) := by
  refine ⟨Or.inr ⟨_, 0, rfl, fun j h => ?_⟩, Or.inr ⟨_, 0, rfl, ?_⟩⟩
  · match j, h with
    | 0, _ => exact ⟨H.c4.cell 0, H.c4.cell 1⟩
    | 1, _ => exact ⟨H.c4.cell 2, H.c4.cell 3⟩
    | j + 2, h => exact absurd h (by show ¬ (j + 2 < 2); omega)
  · show StsAt F [_] _ 0
    rw [StsAt, StsAt, StAt]
    have x := H.c6
    refine ⟨⟨x.cell 0, x.cell 1, x.cell 2, at_lf (x.cell 3) (x.cell 4) (x.cell 5) (x.cell 6), at_lf (x.cell 7) (x.cell 8) (x.cell 9) (x.cell 10), ⟨_, _, x.cell 11, Or.inr ⟨_, 0, rfl, ?_⟩⟩, ⟨_, _, x.cell 12, Or.inl rfl⟩⟩, trivial⟩
    show StsAt F [putS] _ 0
    unfold putS
    rw [StsAt, StsAt, StAt]
    have y := H.c5
    refine ⟨⟨y.cell 0, y.cell 1, y.cell 2, at_lf (y.cell 3) (y.cell 4) (y.cell 5) (y.cell 6), ?_, ⟨_, _, y.cell 11, Or.inl rfl⟩, ⟨_, _, y.cell 12, Or.inl rfl⟩⟩, trivial⟩
    unfold sumE
    rw [ExAt]
    refine ⟨y.cell 7, y.cell 8, y.cell 9, _, _, y.cell 10, Or.inr ⟨_, 0, rfl, ?_⟩⟩
    have z := H.c2
    rw [ExsAt, ExsAt, ExsAt, ExAt]
    refine ⟨⟨z.cell 0, z.cell 1, z.cell 2, _, _, z.cell 3, Or.inr ⟨_, 0, rfl, ?_⟩⟩, at_lf (z.cell 4) (z.cell 5) (z.cell 6) (z.cell 7), trivial⟩
    rw [ExsAt, ExsAt]
    exact ⟨at_lf (H.c1.cell 0) (H.c1.cell 1) (H.c1.cell 2) (H.c1.cell 3), trivial⟩
theorem call_Steps {n : Nat} {F : World} (H : EB n F) (ht : Y.Tb F) : Calls Tryz.prog 30 #[.agg #[.string ⟨#[112]⟩, .slice (some ⟨n + 1 + 1 + 1 + 1, 0, none⟩) 2 2, .slice (some ⟨n + 1 + 1 + 1 + 1 + 1 + 1, 0, none⟩) 1 1]] F fun e' w' => e' = .returned (.int .i64 7) ∧ Below F.heap.size F w' := by
  have := oSteps_any exP (some ⟨n + 1 + 1 + 1 + 1, 0, none⟩) (some ⟨n + 1 + 1 + 1 + 1 + 1 + 1, 0, none⟩) 2 1 ok_exP (by decide) F ht (in_ex H)
  rw [cst_ex] at this
  exact this
theorem call_Gets {n : Nat} {F : World} (H : EB n F) (ht : Y.Tb F) : Calls Tryz.prog 31 #[.agg #[.string ⟨#[112]⟩, .slice (some ⟨n + 1 + 1 + 1 + 1, 0, none⟩) 2 2, .slice (some ⟨n + 1 + 1 + 1 + 1 + 1 + 1, 0, none⟩) 1 1]] F fun e' w' => e' = .returned (.int .i64 3) ∧ Below F.heap.size F w' := by
  have := oGets_any exP (some ⟨n + 1 + 1 + 1 + 1, 0, none⟩) (some ⟨n + 1 + 1 + 1 + 1 + 1 + 1, 0, none⟩) 2 1 ok_exP (by decide) F ht (in_ex H)
  rw [cst_ex] at this
  exact this
theorem call_Puts {n : Nat} {F : World} (H : EB n F) (ht : Y.Tb F) : Calls Tryz.prog 32 #[.agg #[.string ⟨#[112]⟩, .slice (some ⟨n + 1 + 1 + 1 + 1, 0, none⟩) 2 2, .slice (some ⟨n + 1 + 1 + 1 + 1 + 1 + 1, 0, none⟩) 1 1]] F fun e' w' => e' = .returned (.int .i64 3) ∧ Below F.heap.size F w' := by
  have := oPuts_any exP (some ⟨n + 1 + 1 + 1 + 1, 0, none⟩) (some ⟨n + 1 + 1 + 1 + 1 + 1 + 1, 0, none⟩) 2 1 ok_exP (by decide) F ht (in_ex H)
  rw [cst_ex] at this
  exact this
theorem call_Emits {n : Nat} {F : World} (H : EB n F) (ht : Y.Tb F) : Calls Tryz.prog 33 #[.agg #[.string ⟨#[112]⟩, .slice (some ⟨n + 1 + 1 + 1 + 1, 0, none⟩) 2 2, .slice (some ⟨n + 1 + 1 + 1 + 1 + 1 + 1, 0, none⟩) 1 1]] F fun e' w' => e' = .returned (.int .i64 0) ∧ Below F.heap.size F w' := by
  have := oEmits_any exP (some ⟨n + 1 + 1 + 1 + 1, 0, none⟩) (some ⟨n + 1 + 1 + 1 + 1 + 1 + 1, 0, none⟩) 2 1 ok_exP (by decide) F ht (in_ex H)
  rw [cst_ex] at this
  exact this
theorem call_Check {n : Nat} {F : World} (H : EB n F) (ht : Y.Tb F) : Calls Tryz.prog 15 #[.agg #[.string ⟨#[112]⟩, .slice (some ⟨n + 1 + 1 + 1 + 1, 0, none⟩) 2 2, .slice (some ⟨n + 1 + 1 + 1 + 1 + 1 + 1, 0, none⟩) 1 1]] F fun e' w' => e' = .returned (.int .i64 0) ∧ Below F.heap.size F w' := by
  have := oCost_any exP (some ⟨n + 1 + 1 + 1 + 1, 0, none⟩) (some ⟨n + 1 + 1 + 1 + 1 + 1 + 1, 0, none⟩) 2 1 ok_exP (by decide) F ht (in_ex H)
  rw [cost_ex] at this
  exact this
theorem ex_chain (w : World) : EB w.heap.size ((((((((w.alloc (.cells #[.int .i64 3, .int .i64 0, .string ⟨#[107]⟩, .slice none 0 0] 41)).alloc (.cells #[.int .i64 3, .int .i64 0, .string ⟨#[107]⟩, .slice none 0 0] 41)).alloc (.cells #[.int .i64 22, .int .i64 0, .string ⟨#[]⟩, .slice (some ⟨w.heap.size + 1, 0, none⟩) 1 1, .int .i64 1, .int .i64 1, .string ⟨#[]⟩, .slice none 0 0] 41)).alloc (.cells #[.int .i64 3, .string ⟨#[]⟩, .int .i64 0, .int .i64 3, .int .i64 0, .string ⟨#[107]⟩, .slice none 0 0, .int .i64 4, .int .i64 0, .string ⟨#[]⟩, .slice (some ⟨w.heap.size + 1 + 1, 0, none⟩) 2 2, .slice none 0 0, .slice none 0 0] 49)).alloc (.cells #[.string ⟨#[107]⟩, .int .i64 2, .string ⟨#[110]⟩, .int .i64 1] 52)).alloc (.cells #[.int .i64 3, .string ⟨#[]⟩, .int .i64 0, .int .i64 3, .int .i64 0, .string ⟨#[107]⟩, .slice none 0 0, .int .i64 4, .int .i64 0, .string ⟨#[]⟩, .slice (some ⟨w.heap.size + 1 + 1, 0, none⟩) 2 2, .slice none 0 0, .slice none 0 0] 49)).alloc (.cells #[.int .i64 6, .string ⟨#[105]⟩, .int .i64 3, .int .i64 1, .int .i64 0, .string ⟨#[]⟩, .slice none 0 0, .int .i64 3, .int .i64 0, .string ⟨#[110]⟩, .slice none 0 0, .slice (some ⟨w.heap.size + 1 + 1 + 1 + 1 + 1, 0, none⟩) 1 1, .slice none 0 0] 49)).alloc (.cells #[.string ⟨#[112]⟩, .slice (some ⟨w.heap.size + 1 + 1 + 1 + 1, 0, none⟩) 2 2, .slice (some ⟨w.heap.size + 1 + 1 + 1 + 1 + 1 + 1, 0, none⟩) 1 1] 25)) ∧ Below w.heap.size w ((((((((w.alloc (.cells #[.int .i64 3, .int .i64 0, .string ⟨#[107]⟩, .slice none 0 0] 41)).alloc (.cells #[.int .i64 3, .int .i64 0, .string ⟨#[107]⟩, .slice none 0 0] 41)).alloc (.cells #[.int .i64 22, .int .i64 0, .string ⟨#[]⟩, .slice (some ⟨w.heap.size + 1, 0, none⟩) 1 1, .int .i64 1, .int .i64 1, .string ⟨#[]⟩, .slice none 0 0] 41)).alloc (.cells #[.int .i64 3, .string ⟨#[]⟩, .int .i64 0, .int .i64 3, .int .i64 0, .string ⟨#[107]⟩, .slice none 0 0, .int .i64 4, .int .i64 0, .string ⟨#[]⟩, .slice (some ⟨w.heap.size + 1 + 1, 0, none⟩) 2 2, .slice none 0 0, .slice none 0 0] 49)).alloc (.cells #[.string ⟨#[107]⟩, .int .i64 2, .string ⟨#[110]⟩, .int .i64 1] 52)).alloc (.cells #[.int .i64 3, .string ⟨#[]⟩, .int .i64 0, .int .i64 3, .int .i64 0, .string ⟨#[107]⟩, .slice none 0 0, .int .i64 4, .int .i64 0, .string ⟨#[]⟩, .slice (some ⟨w.heap.size + 1 + 1, 0, none⟩) 2 2, .slice none 0 0, .slice none 0 0] 49)).alloc (.cells #[.int .i64 6, .string ⟨#[105]⟩, .int .i64 3, .int .i64 1, .int .i64 0, .string ⟨#[]⟩, .slice none 0 0, .int .i64 3, .int .i64 0, .string ⟨#[110]⟩, .slice none 0 0, .slice (some ⟨w.heap.size + 1 + 1 + 1 + 1 + 1, 0, none⟩) 1 1, .slice none 0 0] 49)).alloc (.cells #[.string ⟨#[112]⟩, .slice (some ⟨w.heap.size + 1 + 1 + 1 + 1, 0, none⟩) 2 2, .slice (some ⟨w.heap.size + 1 + 1 + 1 + 1 + 1 + 1, 0, none⟩) 1 1] 25)) := by
  obtain ⟨z1, e1⟩ : ∃ z, z = w.alloc (.cells #[.int .i64 3, .int .i64 0, .string ⟨#[107]⟩, .slice none 0 0] 41) := ⟨_, rfl⟩
  have b1 : Below w.heap.size w z1 := by rw [e1]; exact below_box _ _
  have x1 := Bx.new w #[.int .i64 3, .int .i64 0, .string ⟨#[107]⟩, .slice none 0 0] 41
  rw [← e1] at x1
  have s1 : z1.heap.size = w.heap.size + 1 := by rw [e1]; simp
  rw [← e1]
  obtain ⟨z2, e2⟩ : ∃ z, z = z1.alloc (.cells #[.int .i64 3, .int .i64 0, .string ⟨#[107]⟩, .slice none 0 0] 41) := ⟨_, rfl⟩
  have b2 : Below z1.heap.size z1 z2 := by rw [e2]; exact below_box _ _
  have x2 := Bx.new z1 #[.int .i64 3, .int .i64 0, .string ⟨#[107]⟩, .slice none 0 0] 41
  rw [← e2] at x2
  rw [s1] at x2
  have s2 : z2.heap.size = w.heap.size + 1 + 1 := by rw [e2]; simp [s1]
  rw [← e2]
  obtain ⟨z3, e3⟩ : ∃ z, z = z2.alloc (.cells #[.int .i64 22, .int .i64 0, .string ⟨#[]⟩, .slice (some ⟨w.heap.size + 1, 0, none⟩) 1 1, .int .i64 1, .int .i64 1, .string ⟨#[]⟩, .slice none 0 0] 41) := ⟨_, rfl⟩
  have b3 : Below z2.heap.size z2 z3 := by rw [e3]; exact below_box _ _
  have x3 := Bx.new z2 #[.int .i64 22, .int .i64 0, .string ⟨#[]⟩, .slice (some ⟨w.heap.size + 1, 0, none⟩) 1 1, .int .i64 1, .int .i64 1, .string ⟨#[]⟩, .slice none 0 0] 41
  rw [← e3] at x3
  rw [s2] at x3
  have s3 : z3.heap.size = w.heap.size + 1 + 1 + 1 := by rw [e3]; simp [s2]
  rw [← e3]
  obtain ⟨z4, e4⟩ : ∃ z, z = z3.alloc (.cells #[.int .i64 3, .string ⟨#[]⟩, .int .i64 0, .int .i64 3, .int .i64 0, .string ⟨#[107]⟩, .slice none 0 0, .int .i64 4, .int .i64 0, .string ⟨#[]⟩, .slice (some ⟨w.heap.size + 1 + 1, 0, none⟩) 2 2, .slice none 0 0, .slice none 0 0] 49) := ⟨_, rfl⟩
  have b4 : Below z3.heap.size z3 z4 := by rw [e4]; exact below_box _ _
  have x4 := Bx.new z3 #[.int .i64 3, .string ⟨#[]⟩, .int .i64 0, .int .i64 3, .int .i64 0, .string ⟨#[107]⟩, .slice none 0 0, .int .i64 4, .int .i64 0, .string ⟨#[]⟩, .slice (some ⟨w.heap.size + 1 + 1, 0, none⟩) 2 2, .slice none 0 0, .slice none 0 0] 49
  rw [← e4] at x4
  rw [s3] at x4
  have s4 : z4.heap.size = w.heap.size + 1 + 1 + 1 + 1 := by rw [e4]; simp [s3]
  rw [← e4]
  obtain ⟨z5, e5⟩ : ∃ z, z = z4.alloc (.cells #[.string ⟨#[107]⟩, .int .i64 2, .string ⟨#[110]⟩, .int .i64 1] 52) := ⟨_, rfl⟩
  have b5 : Below z4.heap.size z4 z5 := by rw [e5]; exact below_box _ _
  have x5 := Bx.new z4 #[.string ⟨#[107]⟩, .int .i64 2, .string ⟨#[110]⟩, .int .i64 1] 52
  rw [← e5] at x5
  rw [s4] at x5
  have s5 : z5.heap.size = w.heap.size + 1 + 1 + 1 + 1 + 1 := by rw [e5]; simp [s4]
  rw [← e5]
  obtain ⟨z6, e6⟩ : ∃ z, z = z5.alloc (.cells #[.int .i64 3, .string ⟨#[]⟩, .int .i64 0, .int .i64 3, .int .i64 0, .string ⟨#[107]⟩, .slice none 0 0, .int .i64 4, .int .i64 0, .string ⟨#[]⟩, .slice (some ⟨w.heap.size + 1 + 1, 0, none⟩) 2 2, .slice none 0 0, .slice none 0 0] 49) := ⟨_, rfl⟩
  have b6 : Below z5.heap.size z5 z6 := by rw [e6]; exact below_box _ _
  have x6 := Bx.new z5 #[.int .i64 3, .string ⟨#[]⟩, .int .i64 0, .int .i64 3, .int .i64 0, .string ⟨#[107]⟩, .slice none 0 0, .int .i64 4, .int .i64 0, .string ⟨#[]⟩, .slice (some ⟨w.heap.size + 1 + 1, 0, none⟩) 2 2, .slice none 0 0, .slice none 0 0] 49
  rw [← e6] at x6
  rw [s5] at x6
  have s6 : z6.heap.size = w.heap.size + 1 + 1 + 1 + 1 + 1 + 1 := by rw [e6]; simp [s5]
  rw [← e6]
  obtain ⟨z7, e7⟩ : ∃ z, z = z6.alloc (.cells #[.int .i64 6, .string ⟨#[105]⟩, .int .i64 3, .int .i64 1, .int .i64 0, .string ⟨#[]⟩, .slice none 0 0, .int .i64 3, .int .i64 0, .string ⟨#[110]⟩, .slice none 0 0, .slice (some ⟨w.heap.size + 1 + 1 + 1 + 1 + 1, 0, none⟩) 1 1, .slice none 0 0] 49) := ⟨_, rfl⟩
  have b7 : Below z6.heap.size z6 z7 := by rw [e7]; exact below_box _ _
  have x7 := Bx.new z6 #[.int .i64 6, .string ⟨#[105]⟩, .int .i64 3, .int .i64 1, .int .i64 0, .string ⟨#[]⟩, .slice none 0 0, .int .i64 3, .int .i64 0, .string ⟨#[110]⟩, .slice none 0 0, .slice (some ⟨w.heap.size + 1 + 1 + 1 + 1 + 1, 0, none⟩) 1 1, .slice none 0 0] 49
  rw [← e7] at x7
  rw [s6] at x7
  have s7 : z7.heap.size = w.heap.size + 1 + 1 + 1 + 1 + 1 + 1 + 1 := by rw [e7]; simp [s6]
  rw [← e7]
  obtain ⟨z8, e8⟩ : ∃ z, z = z7.alloc (.cells #[.string ⟨#[112]⟩, .slice (some ⟨w.heap.size + 1 + 1 + 1 + 1, 0, none⟩) 2 2, .slice (some ⟨w.heap.size + 1 + 1 + 1 + 1 + 1 + 1, 0, none⟩) 1 1] 25) := ⟨_, rfl⟩
  have b8 : Below z7.heap.size z7 z8 := by rw [e8]; exact below_box _ _
  have x8 := Bx.new z7 #[.string ⟨#[112]⟩, .slice (some ⟨w.heap.size + 1 + 1 + 1 + 1, 0, none⟩) 2 2, .slice (some ⟨w.heap.size + 1 + 1 + 1 + 1 + 1 + 1, 0, none⟩) 1 1] 25
  rw [← e8] at x8
  rw [s7] at x8
  rw [← e8]
  refine ⟨⟨(((((((x1.below b2).below b3).below b4).below b5).below b6).below b7).below b8), ((((((x2.below b3).below b4).below b5).below b6).below b7).below b8), (((((x3.below b4).below b5).below b6).below b7).below b8), ((((x4.below b5).below b6).below b7).below b8), (((x5.below b6).below b7).below b8), ((x6.below b7).below b8), (x7.below b8), x8⟩, ?_⟩
  exact (below_2 (below_2 (below_2 (below_2 (below_2 (below_2 (below_2 b1 b2) b3) b4) b5) b6) b7) b8)
set_option maxHeartbeats 8000000 in
set_option maxRecDepth 100000 in
theorem lives_any (w : World) (ht : Y.Tb w) : Calls Tryz.prog 12 #[] w fun e' w' => e' = .returned (.bool true) ∧ Below w.heap.size w w' := by
  obtain ⟨hE, hB⟩ := ex_chain w
  obtain ⟨F, hF⟩ : ∃ F, ((((((((w.alloc (.cells #[.int .i64 3, .int .i64 0, .string ⟨#[107]⟩, .slice none 0 0] 41)).alloc (.cells #[.int .i64 3, .int .i64 0, .string ⟨#[107]⟩, .slice none 0 0] 41)).alloc (.cells #[.int .i64 22, .int .i64 0, .string ⟨#[]⟩, .slice (some ⟨w.heap.size + 1, 0, none⟩) 1 1, .int .i64 1, .int .i64 1, .string ⟨#[]⟩, .slice none 0 0] 41)).alloc (.cells #[.int .i64 3, .string ⟨#[]⟩, .int .i64 0, .int .i64 3, .int .i64 0, .string ⟨#[107]⟩, .slice none 0 0, .int .i64 4, .int .i64 0, .string ⟨#[]⟩, .slice (some ⟨w.heap.size + 1 + 1, 0, none⟩) 2 2, .slice none 0 0, .slice none 0 0] 49)).alloc (.cells #[.string ⟨#[107]⟩, .int .i64 2, .string ⟨#[110]⟩, .int .i64 1] 52)).alloc (.cells #[.int .i64 3, .string ⟨#[]⟩, .int .i64 0, .int .i64 3, .int .i64 0, .string ⟨#[107]⟩, .slice none 0 0, .int .i64 4, .int .i64 0, .string ⟨#[]⟩, .slice (some ⟨w.heap.size + 1 + 1, 0, none⟩) 2 2, .slice none 0 0, .slice none 0 0] 49)).alloc (.cells #[.int .i64 6, .string ⟨#[105]⟩, .int .i64 3, .int .i64 1, .int .i64 0, .string ⟨#[]⟩, .slice none 0 0, .int .i64 3, .int .i64 0, .string ⟨#[110]⟩, .slice none 0 0, .slice (some ⟨w.heap.size + 1 + 1 + 1 + 1 + 1, 0, none⟩) 1 1, .slice none 0 0] 49)).alloc (.cells #[.string ⟨#[112]⟩, .slice (some ⟨w.heap.size + 1 + 1 + 1 + 1, 0, none⟩) 2 2, .slice (some ⟨w.heap.size + 1 + 1 + 1 + 1 + 1 + 1, 0, none⟩) 1 1] 25)) = F := ⟨_, rfl⟩
  rw [hF] at hE hB
  have HE := Lib.hid hE
  have HT := Lib.hid (ht.below hB)
  have HB := Lib.hid hB
  have HF := Lib.hid hF
  clear hE hB hF ht
  go_enter Tryz.func12, Tryz.ntmps12
  go_wp2_with fail
  rw [HF.out]
  refine (call_Steps HE.out HT.out).mono ?_; rintro e' w1 ⟨rfl, hb⟩
  have H1 := Lib.hid (HE.out.below hb)
  have T1 := Lib.hid (HT.out.below hb)
  have B1 := Lib.hid (below_2 HB.out hb)
  clear hb HF
  have y0 := H1.out.c7.cell 0
  have y1 := H1.out.c7.cell 1
  have y2 := H1.out.c7.cell 2
  simp only [List.getElem?_toArray, List.getElem?_cons_succ, List.getElem?_cons_zero] at y0 y1 y2
  go_wp2_with fail
  refine (call_Gets H1.out T1.out).mono ?_; rintro e' w2 ⟨rfl, hb⟩
  have H2 := Lib.hid (H1.out.below hb)
  have T2 := Lib.hid (T1.out.below hb)
  have B2 := Lib.hid (below_2 B1.out hb)
  clear hb y0 y1 y2
  have y0 := H2.out.c7.cell 0
  have y1 := H2.out.c7.cell 1
  have y2 := H2.out.c7.cell 2
  simp only [List.getElem?_toArray, List.getElem?_cons_succ, List.getElem?_cons_zero] at y0 y1 y2
  go_wp2_with fail
  refine (call_Puts H2.out T2.out).mono ?_; rintro e' w3 ⟨rfl, hb⟩
  have H3 := Lib.hid (H2.out.below hb)
  have T3 := Lib.hid (T2.out.below hb)
  have B3 := Lib.hid (below_2 B2.out hb)
  clear hb y0 y1 y2
  have y0 := H3.out.c7.cell 0
  have y1 := H3.out.c7.cell 1
  have y2 := H3.out.c7.cell 2
  simp only [List.getElem?_toArray, List.getElem?_cons_succ, List.getElem?_cons_zero] at y0 y1 y2
  go_wp2_with fail
  refine (call_Emits H3.out T3.out).mono ?_; rintro e' w4 ⟨rfl, hb⟩
  have H4 := Lib.hid (H3.out.below hb)
  have T4 := Lib.hid (T3.out.below hb)
  have B4 := Lib.hid (below_2 B3.out hb)
  clear hb y0 y1 y2
  have y0 := H4.out.c7.cell 0
  have y1 := H4.out.c7.cell 1
  have y2 := H4.out.c7.cell 2
  simp only [List.getElem?_toArray, List.getElem?_cons_succ, List.getElem?_cons_zero] at y0 y1 y2
  go_wp2_with fail
  refine (call_Check H4.out T4.out).mono ?_; rintro e' w5 ⟨rfl, hb⟩
  have B5 := Lib.hid (below_2 B4.out hb)
  clear hb y0 y1 y2
  go_wp2_with fail
  go_ret
  exact ⟨rfl, B5.out⟩
end Go.Proofs.YtkjefigebdbkaaaGreatDoor.Q
namespace Go.Proofs.YtkjefigebdbkaaaGreatDoor.Q
open Go.RowKit
open A (Ex St Pr Bx okB okS cE cB cS Bodies OkP PrIn prV prO small)
open L (below_2 below_box ret_bool ret_int)

theorem rlist_of {p : Pr} (h : N.checkN p = 0) (hok : OkP p) (a2 : Option Addr) (c2 : Nat) (w : World) (hK : Bodies w a2 p.body) :
    Calls Tryz.prog 34 #[.slice a2 p.body.length c2] w fun e' w' => e' = .returned (ctV (exB p.body).cut) ∧ Below w.heap.size w w' :=
  rbody_any p.body a2 c2 w hok.bodyLen hok.body (go_val (val_of h)) (by have := N.val_cB (val_of h); omega) hK
set_option maxHeartbeats 8000000 in
set_option maxRecDepth 100000 in
theorem rOf_any (p : Pr) (a1 a2 : Option Addr) (c1 c2 : Nat) (hok : OkP p) (w : World) (hK : PrIn w p a1 a2) :
    Calls Tryz.prog 13 #[prV p a1 c1 a2 c2] w fun e' w' => e' = .returned (.tuple #[ciV (cst p), .bool (decide (N.checkN p = 0))]) ∧ Below w.heap.size w w' := by
  obtain ⟨W1, e1⟩ : ∃ z, z = w.alloc (.cells #[.string p.name, .slice a1 p.params.length c1, .slice a2 p.body.length c2] 25) := ⟨_, rfl⟩
  have bb1 : Below w.heap.size w W1 := by rw [e1]; exact below_box _ _
  have xx1 := Bx.new w #[.string p.name, .slice a1 p.params.length c1, .slice a2 p.body.length c2] 25
  rw [← e1] at xx1
  have s1 : W1.heap.size = w.heap.size + 1 := by rw [e1]; simp
  obtain ⟨W2, e2⟩ : ∃ z, z = W1.alloc (.cells #[.int .i64 0, .int .i64 0, .int .i64 0, .int .i64 0] 34) := ⟨_, rfl⟩
  have bb2 : Below W1.heap.size W1 W2 := by rw [e2]; exact below_box _ _
  have xx2 := Bx.new W1 #[.int .i64 0, .int .i64 0, .int .i64 0, .int .i64 0] 34
  rw [← e2] at xx2
  rw [s1] at xx2
  have HB := Lib.hid (below_2 bb1 bb2)
  have HX := Lib.hid (xx1.below bb2)
  have HZ := Lib.hid xx2
  have HW : Hid ((w.alloc (.cells #[.string p.name, .slice a1 p.params.length c1, .slice a2 p.body.length c2] 25)).alloc (.cells #[.int .i64 0, .int .i64 0, .int .i64 0, .int .i64 0] 34) = W2) := by show _ = _; rw [← e1, ← e2]
  have HC := Lib.hid (N.rCheck12_any p a1 a2 c1 c2 hok W2 (hK.below HB.out))
  have HK := Lib.hid (hK.below HB.out)
  have HLs : Hid (N.checkN p = 0 → ∀ w', Below W2.heap.size W2 w' → Calls Tryz.prog 34 #[.slice a2 p.body.length c2] w' fun e' w'' => e' = .returned (ctV (exB p.body).cut) ∧ Below w'.heap.size w' w'') := fun h w' hb => rlist_of h hok a2 c2 w' (HK.out.below hb).body
  obtain ⟨V, hV⟩ : ∃ V, cst p = V := ⟨_, rfl⟩
  have hV2 : (if N.checkN p ≠ 0 then Ci.no else Ci.of (exB p.body).cut) = V := hV
  rw [hV]
  have HV := Lib.hid hV2
  generalize N.checkN p = E at *
  clear e1 e2 bb1 bb2 xx1 xx2 s1 hok hK hV hV2
  unfold prV at HC ⊢
  by_cases h0 : E = 0
  case neg =>
    have b1 : (E != 0) = true := bne_iff_ne.2 h0
    have bd : decide (E = 0) = false := decide_eq_false h0
    have hv := HV.out
    rw [if_pos h0] at hv
    subst hv
    rw [bd]
    clear h0 HV bd
    go_enter Tryz.func13, Tryz.ntmps13
    go_wp2_with fail
    rw [HW.out]
    have x0 := HX.out.cell 0
    have x1 := HX.out.cell 1
    have x2 := HX.out.cell 2
    simp only [List.getElem?_toArray, List.getElem?_cons_zero, List.getElem?_cons_succ] at x0 x1 x2
    go_wp2_with fail
    refine HC.out.mono ?_; rintro e' w3 ⟨rfl, hb3⟩
    have HB3 := Lib.hid (below_2 HB.out hb3)
    have hz3 := HZ.out.below hb3
    clear hb3 x0 x1 x2
    obtain ⟨d0, d1, d2, d3, d4, d5, d6, d7⟩ := four_open hz3
    have hz := four_set hz3 (.int .i64 (-1)) (.int .i64 (-1)) (.int .i64 (-1)) (.int .i64 (-1))
    have q0 := hz.cell 0
    have q1 := hz.cell 1
    have q2 := hz.cell 2
    have q3 := hz.cell 3
    simp only [List.getElem?_toArray, List.getElem?_cons_zero, List.getElem?_cons_succ] at q0 q1 q2 q3
    clear hz
    go_wp2_with fail
    refine bodyPost_ret (v := .tuple #[.agg #[.int .i64 (-1), .int .i64 (-1), .int .i64 (-1), .int .i64 (-1)], .bool false]) (by simp [results, Tryz.results13, go_sem, q0, q1, q2, q3]) rfl ?_
    exact ⟨rfl, four_below HB3.out (Nat.le_succ _) _ _ _ _⟩
  subst h0
  have bd : decide ((0 : Int) = 0) = true := rfl
  rw [bd]
  have hv := HV.out
  rw [if_neg (fun z => z rfl)] at hv
  have HL2 := Lib.hid (HLs.out rfl)
  generalize (exB p.body).cut = X at hv HL2
  subst hv
  unfold ctV at HL2
  clear HV HLs bd
  go_enter Tryz.func13, Tryz.ntmps13
  go_wp2_with fail
  rw [HW.out]
  have x0 := HX.out.cell 0
  have x1 := HX.out.cell 1
  have x2 := HX.out.cell 2
  simp only [List.getElem?_toArray, List.getElem?_cons_zero, List.getElem?_cons_succ] at x0 x1 x2
  go_wp2_with fail
  refine HC.out.mono ?_; rintro e' w3 ⟨rfl, hb3⟩
  have HB3 := Lib.hid hb3
  have x3 := (HX.out.below hb3).cell 2
  simp only [List.getElem?_toArray, List.getElem?_cons_zero, List.getElem?_cons_succ] at x3
  clear hb3 x0 x1 x2
  go_wp2_with fail
  refine (HL2.out _ HB3.out).mono ?_; rintro e' w4 ⟨rfl, hb4⟩
  have HB4 := Lib.hid (below_2 HB.out (below_2 HB3.out hb4))
  have hz4 := HZ.out.below (below_2 HB3.out hb4)
  clear hb4 x3
  obtain ⟨d0, d1, d2, d3, d4, d5, d6, d7⟩ := four_open hz4
  have hz := four_set hz4 (.int .i64 (X.s : Int)) (.int .i64 (X.g : Int)) (.int .i64 (X.u : Int)) (.int .i64 (X.m : Int))
  have q0 := hz.cell 0
  have q1 := hz.cell 1
  have q2 := hz.cell 2
  have q3 := hz.cell 3
  simp only [List.getElem?_toArray, List.getElem?_cons_zero, List.getElem?_cons_succ] at q0 q1 q2 q3
  clear hz
  go_wp2_with fail
  refine bodyPost_ret (v := .tuple #[.agg #[.int .i64 (X.s : Int), .int .i64 (X.g : Int), .int .i64 (X.u : Int), .int .i64 (X.m : Int)], .bool true]) (by simp [results, Tryz.results13, go_sem, q0, q1, q2, q3]) rfl ?_
  exact ⟨rfl, four_below HB4.out (Nat.le_succ _) _ _ _ _⟩
set_option maxHeartbeats 8000000 in
set_option maxRecDepth 100000 in
theorem rCost_any (p : Pr) (a1 a2 : Option Addr) (c1 c2 : Nat) (hok : OkP p) (w : World) (hK : PrIn w p a1 a2) :
    Calls Tryz.prog 16 #[prV p a1 c1 a2 c2] w fun e' w' => e' = .returned (.int .i64 (costE (cst p) (N.checkN p))) ∧ Below w.heap.size w w' := by
  obtain ⟨W1, e1⟩ : ∃ z, z = w.alloc (.cells #[.string p.name, .slice a1 p.params.length c1, .slice a2 p.body.length c2] 25) := ⟨_, rfl⟩
  have bb1 : Below w.heap.size w W1 := by rw [e1]; exact below_box _ _
  have xx1 := Bx.new w #[.string p.name, .slice a1 p.params.length c1, .slice a2 p.body.length c2] 25
  rw [← e1] at xx1
  have s1 : W1.heap.size = w.heap.size + 1 := by rw [e1]; simp
  have HB := Lib.hid bb1
  have HX := Lib.hid xx1
  have HW : Hid (w.alloc (.cells #[.string p.name, .slice a1 p.params.length c1, .slice a2 p.body.length c2] 25) = W1) := by show _ = _; rw [← e1]
  have HC := Lib.hid (N.rCheck12_any p a1 a2 c1 c2 hok W1 (hK.below HB.out))
  have HO := Lib.hid (fun w' (hb : Below W1.heap.size W1 w') => rOf_any p a1 a2 c1 c2 hok w' (hK.below (below_2 HB.out hb)))
  generalize N.checkN p = E at *
  generalize cst p = C at *
  obtain ⟨C0, C1, C2, C3⟩ := C
  clear e1 bb1 xx1 s1 hok hK
  obtain ⟨R, hR⟩ : ∃ R, costE ⟨C0, C1, C2, C3⟩ E = R := ⟨_, rfl⟩
  rw [hR]
  have hR1 : (if E ≠ 0 then E else if 16384 < C0 then 13 else if 64 < C1 ∨ 64 < C2 ∨ 16 < C3 then 2 else 0) = R := hR
  have HR := Lib.hid hR1
  clear hR hR1
  unfold ciV at HO
  unfold prV at HC HO ⊢
  by_cases h0 : E = 0
  case neg =>
    have b1 : (E != 0) = true := bne_iff_ne.2 h0
    obtain rfl : E = R := by rw [← HR.out, if_pos h0]
    clear h0 HR
    go_enter Tryz.func16, Tryz.ntmps16
    go_wp2_with fail
    rw [HW.out]
    have x0 := HX.out.cell 0
    have x1 := HX.out.cell 1
    have x2 := HX.out.cell 2
    simp only [List.getElem?_toArray, List.getElem?_cons_zero, List.getElem?_cons_succ] at x0 x1 x2
    go_wp2_with fail
    refine HC.out.mono ?_; rintro e' w3 ⟨rfl, hb3⟩
    have HB3 := Lib.hid hb3
    clear hb3 x0 x1 x2
    go_wp2_with fail
    go_ret
    exact ⟨rfl, below_2 HB.out HB3.out⟩
  subst h0
  by_cases h0 : 16384 < C0
  · have b0 : decide (16384 < C0) = true := decide_eq_true h0
    obtain rfl : 13 = R := by rw [← HR.out, if_neg (fun z => z rfl), if_pos h0]
    clear HR
    go_enter Tryz.func16, Tryz.ntmps16
    go_wp2_with fail
    rw [HW.out]
    have x0 := HX.out.cell 0
    have x1 := HX.out.cell 1
    have x2 := HX.out.cell 2
    simp only [List.getElem?_toArray, List.getElem?_cons_zero, List.getElem?_cons_succ] at x0 x1 x2
    go_wp2_with fail
    refine HC.out.mono ?_; rintro e' w3 ⟨rfl, hb3⟩
    have HB3 := Lib.hid hb3
    clear hb3 x0 x1 x2
    have x0 := (HX.out.below HB3.out).cell 0
    have x1 := (HX.out.below HB3.out).cell 1
    have x2 := (HX.out.below HB3.out).cell 2
    simp only [List.getElem?_toArray, List.getElem?_cons_zero, List.getElem?_cons_succ] at x0 x1 x2
    go_wp2_with fail
    refine (HO.out _ HB3.out).mono ?_; rintro e' w4 ⟨rfl, hb4⟩
    have HB4 := Lib.hid (below_2 HB.out (below_2 HB3.out hb4))
    clear hb4 x0 x1 x2
    go_wp2_with fail
    go_ret
    exact ⟨rfl, below_2 HB4.out (below_box _ _)⟩
  have b0 : decide (16384 < C0) = false := decide_eq_false h0
  by_cases h1 : 64 < C1
  · have b1 : decide (64 < C1) = true := decide_eq_true h1
    obtain rfl : 2 = R := by rw [← HR.out, if_neg (fun z => z rfl), if_neg h0, if_pos (Or.inl h1)]
    clear HR h0
    go_enter Tryz.func16, Tryz.ntmps16
    go_wp2_with fail
    rw [HW.out]
    have x0 := HX.out.cell 0
    have x1 := HX.out.cell 1
    have x2 := HX.out.cell 2
    simp only [List.getElem?_toArray, List.getElem?_cons_zero, List.getElem?_cons_succ] at x0 x1 x2
    go_wp2_with fail
    refine HC.out.mono ?_; rintro e' w3 ⟨rfl, hb3⟩
    have HB3 := Lib.hid hb3
    clear hb3 x0 x1 x2
    have x0 := (HX.out.below HB3.out).cell 0
    have x1 := (HX.out.below HB3.out).cell 1
    have x2 := (HX.out.below HB3.out).cell 2
    simp only [List.getElem?_toArray, List.getElem?_cons_zero, List.getElem?_cons_succ] at x0 x1 x2
    go_wp2_with fail
    refine (HO.out _ HB3.out).mono ?_; rintro e' w4 ⟨rfl, hb4⟩
    have HB4 := Lib.hid (below_2 HB.out (below_2 HB3.out hb4))
    clear hb4 x0 x1 x2
    go_wp2_with fail
    go_ret
    exact ⟨rfl, below_2 HB4.out (below_box _ _)⟩
  have b1 : decide (64 < C1) = false := decide_eq_false h1
  by_cases h2 : 64 < C2
  · have b2 : decide (64 < C2) = true := decide_eq_true h2
    obtain rfl : 2 = R := by rw [← HR.out, if_neg (fun z => z rfl), if_neg h0, if_pos (Or.inr (Or.inl h2))]
    clear HR h0 h1
    go_enter Tryz.func16, Tryz.ntmps16
    go_wp2_with fail
    rw [HW.out]
    have x0 := HX.out.cell 0
    have x1 := HX.out.cell 1
    have x2 := HX.out.cell 2
    simp only [List.getElem?_toArray, List.getElem?_cons_zero, List.getElem?_cons_succ] at x0 x1 x2
    go_wp2_with fail
    refine HC.out.mono ?_; rintro e' w3 ⟨rfl, hb3⟩
    have HB3 := Lib.hid hb3
    clear hb3 x0 x1 x2
    have x0 := (HX.out.below HB3.out).cell 0
    have x1 := (HX.out.below HB3.out).cell 1
    have x2 := (HX.out.below HB3.out).cell 2
    simp only [List.getElem?_toArray, List.getElem?_cons_zero, List.getElem?_cons_succ] at x0 x1 x2
    go_wp2_with fail
    refine (HO.out _ HB3.out).mono ?_; rintro e' w4 ⟨rfl, hb4⟩
    have HB4 := Lib.hid (below_2 HB.out (below_2 HB3.out hb4))
    clear hb4 x0 x1 x2
    go_wp2_with fail
    go_ret
    exact ⟨rfl, below_2 HB4.out (below_box _ _)⟩
  have b2 : decide (64 < C2) = false := decide_eq_false h2
  by_cases h3 : 16 < C3
  · have b3 : decide (16 < C3) = true := decide_eq_true h3
    obtain rfl : 2 = R := by rw [← HR.out, if_neg (fun z => z rfl), if_neg h0, if_pos (Or.inr (Or.inr h3))]
    clear HR h0 h1 h2
    go_enter Tryz.func16, Tryz.ntmps16
    go_wp2_with fail
    rw [HW.out]
    have x0 := HX.out.cell 0
    have x1 := HX.out.cell 1
    have x2 := HX.out.cell 2
    simp only [List.getElem?_toArray, List.getElem?_cons_zero, List.getElem?_cons_succ] at x0 x1 x2
    go_wp2_with fail
    refine HC.out.mono ?_; rintro e' w3 ⟨rfl, hb3⟩
    have HB3 := Lib.hid hb3
    clear hb3 x0 x1 x2
    have x0 := (HX.out.below HB3.out).cell 0
    have x1 := (HX.out.below HB3.out).cell 1
    have x2 := (HX.out.below HB3.out).cell 2
    simp only [List.getElem?_toArray, List.getElem?_cons_zero, List.getElem?_cons_succ] at x0 x1 x2
    go_wp2_with fail
    refine (HO.out _ HB3.out).mono ?_; rintro e' w4 ⟨rfl, hb4⟩
    have HB4 := Lib.hid (below_2 HB.out (below_2 HB3.out hb4))
    clear hb4 x0 x1 x2
    go_wp2_with fail
    go_ret
    exact ⟨rfl, below_2 HB4.out (below_box _ _)⟩
  have b3 : decide (16 < C3) = false := decide_eq_false h3
  obtain rfl : 0 = R := by rw [← HR.out, if_neg (fun z => z rfl), if_neg h0, if_neg (fun z => z.elim h1 (fun z => z.elim h2 h3))]
  clear HR h0 h1 h2 h3
  go_enter Tryz.func16, Tryz.ntmps16
  go_wp2_with fail
  rw [HW.out]
  have x0 := HX.out.cell 0
  have x1 := HX.out.cell 1
  have x2 := HX.out.cell 2
  simp only [List.getElem?_toArray, List.getElem?_cons_zero, List.getElem?_cons_succ] at x0 x1 x2
  go_wp2_with fail
  refine HC.out.mono ?_; rintro e' w3 ⟨rfl, hb3⟩
  have HB3 := Lib.hid hb3
  clear hb3 x0 x1 x2
  have x0 := (HX.out.below HB3.out).cell 0
  have x1 := (HX.out.below HB3.out).cell 1
  have x2 := (HX.out.below HB3.out).cell 2
  simp only [List.getElem?_toArray, List.getElem?_cons_zero, List.getElem?_cons_succ] at x0 x1 x2
  go_wp2_with fail
  refine (HO.out _ HB3.out).mono ?_; rintro e' w4 ⟨rfl, hb4⟩
  have HB4 := Lib.hid (below_2 HB.out (below_2 HB3.out hb4))
  clear hb4 x0 x1 x2
  go_wp2_with fail
  go_ret
  exact ⟨rfl, below_2 HB4.out (below_box _ _)⟩
set_option maxHeartbeats 8000000 in
set_option maxRecDepth 100000 in
theorem lawCounts_any (p : Pr) (a1 a2 : Option Addr) (c1 c2 : Nat) (hok : OkP p) (hc1 : p.params.length ≤ c1) (w : World) (ht : Y.Tb w) (hK : PrIn w p a1 a2) :
    Calls Tryz.prog 4 #[prV p a1 c1 a2 c2] w fun e' w' => e' = .returned (.bool true) ∧ Below w.heap.size w w' := by
  obtain ⟨W1, e1⟩ : ∃ z, z = w.alloc (.cells #[.string p.name, .slice a1 p.params.length c1, .slice a2 p.body.length c2] 25) := ⟨_, rfl⟩
  have bb1 : Below w.heap.size w W1 := by rw [e1]; exact below_box _ _
  have xx1 := Bx.new w #[.string p.name, .slice a1 p.params.length c1, .slice a2 p.body.length c2] 25
  rw [← e1] at xx1
  have s1 : W1.heap.size = w.heap.size + 1 := by rw [e1]; simp
  have HB := Lib.hid bb1
  have HX := Lib.hid xx1
  have HW : Hid (w.alloc (.cells #[.string p.name, .slice a1 p.params.length c1, .slice a2 p.body.length c2] 25) = W1) := by show _ = _; rw [← e1]
  have HS := Lib.hid (A.rsmall_any p a1 c1 a2 c2 150 (by omega) hok W1 (hK.below HB.out))
  have HLv : Hid (∀ wk, Below W1.heap.size W1 wk → Calls Tryz.prog 12 #[] wk fun e' w' => e' = .returned (.bool true) ∧ Below wk.heap.size wk w') := fun wk hk => lives_any wk (ht.below (below_2 HB.out hk))
  have HOf : Hid (∀ wk, Below W1.heap.size W1 wk → Calls Tryz.prog 14 #[prV p a1 c1 a2 c2] wk fun e' w' => e' = .returned (ciV (cst p)) ∧ Below wk.heap.size wk w') := fun wk hk => lof_any p a1 a2 c1 c2 hok hc1 wk (ht.below (below_2 HB.out hk)) (hK.below (below_2 HB.out hk))
  have HRo := Lib.hid (fun w' (hb : Below W1.heap.size W1 w') => rOf_any p a1 a2 c1 c2 hok w' (hK.below (below_2 HB.out hb)))
  generalize decide (N.checkN p = 0) = bb at *
  generalize cst p = C at *
  obtain ⟨C0, C1, C2, C3⟩ := C
  unfold ciV at HOf HRo
  unfold prV at HS HOf HRo ⊢
  clear e1 bb1 xx1 s1 hok hc1 ht hK
  generalize small p 150 = sm at *
  cases sm
  · go_enter Tryz.func4, Tryz.ntmps4
    go_wp2_with fail
    rw [HW.out]
    have x0 := HX.out.cell 0
    have x1 := HX.out.cell 1
    have x2 := HX.out.cell 2
    simp only [List.getElem?_toArray, List.getElem?_cons_zero, List.getElem?_cons_succ] at x0 x1 x2
    go_wp2_with fail
    refine HS.out.mono ?_; rintro e' w2 ⟨rfl, hb2⟩
    have HB2 := Lib.hid hb2
    clear hb2 x0 x1 x2
    go_wp2_with fail
    refine (HLv.out _ HB2.out).mono ?_; rintro e' w9 ⟨rfl, hb9⟩
    have HB9 := Lib.hid (below_2 HB.out (below_2 HB2.out hb9))
    clear hb9
    go_wp2_with fail
    go_ret
    exact ⟨rfl, HB9.out⟩
  go_enter Tryz.func4, Tryz.ntmps4
  go_wp2_with fail
  rw [HW.out]
  have x0 := HX.out.cell 0
  have x1 := HX.out.cell 1
  have x2 := HX.out.cell 2
  simp only [List.getElem?_toArray, List.getElem?_cons_zero, List.getElem?_cons_succ] at x0 x1 x2
  go_wp2_with fail
  refine HS.out.mono ?_; rintro e' w2 ⟨rfl, hb2⟩
  have HB2 := Lib.hid hb2
  clear hb2 x0 x1 x2
  have x0 := (HX.out.below HB2.out).cell 0
  have x1 := (HX.out.below HB2.out).cell 1
  have x2 := (HX.out.below HB2.out).cell 2
  simp only [List.getElem?_toArray, List.getElem?_cons_zero, List.getElem?_cons_succ] at x0 x1 x2
  go_wp2_with fail
  refine (HRo.out _ HB2.out).mono ?_; rintro e' w3 ⟨rfl, hb3⟩
  have hbx := below_box w3 (.cells #[.int .i64 C0, .int .i64 C1, .int .i64 C2, .int .i64 C3] 34)
  have hx5 := Bx.new w3 #[.int .i64 C0, .int .i64 C1, .int .i64 C2, .int .i64 C3] 34
  obtain ⟨W5, hW5⟩ : ∃ z, w3.alloc (.cells #[.int .i64 C0, .int .i64 C1, .int .i64 C2, .int .i64 C3] 34) = z := ⟨_, rfl⟩
  rw [hW5] at hbx hx5
  have HW5 := Lib.hid hW5
  have HBZ := Lib.hid (below_2 HB2.out (below_2 hb3 hbx))
  have v0 := hx5.cell 0
  have v1 := hx5.cell 1
  have v2 := hx5.cell 2
  have v3 := hx5.cell 3
  simp only [List.getElem?_toArray, List.getElem?_cons_zero, List.getElem?_cons_succ] at v0 v1 v2 v3
  clear hb3 hbx hx5 hW5 x0 x1 x2
  have x0 := (HX.out.below HBZ.out).cell 0
  have x1 := (HX.out.below HBZ.out).cell 1
  have x2 := (HX.out.below HBZ.out).cell 2
  simp only [List.getElem?_toArray, List.getElem?_cons_zero, List.getElem?_cons_succ] at x0 x1 x2
  have r0 := fun d os => cell_regrown x0 d os
  have r1 := fun d os => cell_regrown x1 d os
  have r2 := fun d os => cell_regrown x2 d os
  have r3 := fun d os => cell_regrown v0 d os
  have r4 := fun d os => cell_regrown v1 d os
  have r5 := fun d os => cell_regrown v2 d os
  have r6 := fun d os => cell_regrown v3 d os
  have D1 := Lib.hid (fun d os => Calls.regrown_of (w := W5) (d := d) (os := os) (HOf.out _ (below_2 HBZ.out (below_regrown W5 d os))))
  have D2 := Lib.hid (fun d os => Calls.regrown_of (w := W5) (d := d) (os := os) (HLv.out _ (below_2 HBZ.out (below_regrown W5 d os))))
  go_upto_region 4 with fail
  rw [HW5.out]
  clear x0 x1 x2 v0 v1 v2 v3
  refine wp_region_quiet_below (by kernel_rfl) (by kernel_rfl) ?_
  repeat (go_big_quiet_step (first | with_reducible exact D1.out _ _ | with_reducible exact D2.out _ _))
  refine wpQuiet_nil ?_
  intro w6 hw'
  have hbq : Below W5.heap.size W5 w6 := by obtain ⟨pq, rfl⟩ := hw'; exact below_regrown _ _ _
  have HBq := Lib.hid (below_2 HB.out (below_2 HBZ.out hbq))
  clear r0 r1 r2 r3 r4 r5 r6 D1 D2 hw' hbq
  go_wp2_with fail
  go_ret
  exact ⟨rfl, HBq.out⟩
set_option maxHeartbeats 8000000 in
set_option maxRecDepth 100000 in
theorem lawChecks_any (p : Pr) (a1 a2 : Option Addr) (c1 c2 : Nat) (hok : OkP p) (hc1 : p.params.length ≤ c1) (w : World) (ht : Y.Tb w) (hK : PrIn w p a1 a2) :
    Calls Tryz.prog 5 #[prV p a1 c1 a2 c2] w fun e' w' => e' = .returned (.bool true) ∧ Below w.heap.size w w' := by
  obtain ⟨W1, e1⟩ : ∃ z, z = w.alloc (.cells #[.string p.name, .slice a1 p.params.length c1, .slice a2 p.body.length c2] 25) := ⟨_, rfl⟩
  have bb1 : Below w.heap.size w W1 := by rw [e1]; exact below_box _ _
  have xx1 := Bx.new w #[.string p.name, .slice a1 p.params.length c1, .slice a2 p.body.length c2] 25
  rw [← e1] at xx1
  have s1 : W1.heap.size = w.heap.size + 1 := by rw [e1]; simp
  have HB := Lib.hid bb1
  have HX := Lib.hid xx1
  have HW : Hid (w.alloc (.cells #[.string p.name, .slice a1 p.params.length c1, .slice a2 p.body.length c2] 25) = W1) := by show _ = _; rw [← e1]
  have HS := Lib.hid (A.rsmall_any p a1 c1 a2 c2 150 (by omega) hok W1 (hK.below HB.out))
  have HLv : Hid (∀ wk, Below W1.heap.size W1 wk → Calls Tryz.prog 12 #[] wk fun e' w' => e' = .returned (.bool true) ∧ Below wk.heap.size wk w') := fun wk hk => lives_any wk (ht.below (below_2 HB.out hk))
  have HCa : Hid (∀ wk, Below W1.heap.size W1 wk → Calls Tryz.prog 15 #[prV p a1 c1 a2 c2] wk fun e' w' => e' = .returned (.int .i64 (costE (cst p) (N.checkN p))) ∧ Below wk.heap.size wk w') := fun wk hk => oCost_any p a1 a2 c1 c2 hok hc1 wk (ht.below (below_2 HB.out hk)) (hK.below (below_2 HB.out hk))
  have HCb := Lib.hid (fun w' (hb : Below W1.heap.size W1 w') => rCost_any p a1 a2 c1 c2 hok w' (hK.below (below_2 HB.out hb)))
  generalize costE (cst p) (N.checkN p) = E at *
  unfold prV at HS HCa HCb ⊢
  clear e1 bb1 xx1 s1 hok hc1 ht hK
  generalize small p 150 = sm at *
  cases sm
  · go_enter Tryz.func5, Tryz.ntmps5
    go_wp2_with fail
    rw [HW.out]
    have x0 := HX.out.cell 0
    have x1 := HX.out.cell 1
    have x2 := HX.out.cell 2
    simp only [List.getElem?_toArray, List.getElem?_cons_zero, List.getElem?_cons_succ] at x0 x1 x2
    go_wp2_with fail
    refine HS.out.mono ?_; rintro e' w2 ⟨rfl, hb2⟩
    have HB2 := Lib.hid hb2
    clear hb2 x0 x1 x2
    go_wp2_with fail
    refine (HLv.out _ HB2.out).mono ?_; rintro e' w9 ⟨rfl, hb9⟩
    have HB9 := Lib.hid (below_2 HB.out (below_2 HB2.out hb9))
    clear hb9
    go_wp2_with fail
    go_ret
    exact ⟨rfl, HB9.out⟩
  go_enter Tryz.func5, Tryz.ntmps5
  go_wp2_with fail
  rw [HW.out]
  have x0 := HX.out.cell 0
  have x1 := HX.out.cell 1
  have x2 := HX.out.cell 2
  simp only [List.getElem?_toArray, List.getElem?_cons_zero, List.getElem?_cons_succ] at x0 x1 x2
  go_wp2_with fail
  refine HS.out.mono ?_; rintro e' w2 ⟨rfl, hb2⟩
  have HB2 := Lib.hid hb2
  clear hb2 x0 x1 x2
  have x0 := (HX.out.below HB2.out).cell 0
  have x1 := (HX.out.below HB2.out).cell 1
  have x2 := (HX.out.below HB2.out).cell 2
  simp only [List.getElem?_toArray, List.getElem?_cons_zero, List.getElem?_cons_succ] at x0 x1 x2
  have HBZ := Lib.hid HB2.out
  have r0 := fun d os => cell_regrown x0 d os
  have r1 := fun d os => cell_regrown x1 d os
  have r2 := fun d os => cell_regrown x2 d os
  have D1 := Lib.hid (fun d os => Calls.regrown_of (w := w2) (d := d) (os := os) (HCa.out _ (below_2 HBZ.out (below_regrown w2 d os))))
  have D2 := Lib.hid (fun d os => Calls.regrown_of (w := w2) (d := d) (os := os) (HCb.out _ (below_2 HBZ.out (below_regrown w2 d os))))
  have D3 := Lib.hid (fun d os => Calls.regrown_of (w := w2) (d := d) (os := os) (HLv.out _ (below_2 HBZ.out (below_regrown w2 d os))))
  go_upto_region 3 with fail
  clear x0 x1 x2
  refine wp_region_quiet_below (by kernel_rfl) (by kernel_rfl) ?_
  repeat (go_big_quiet_step (first | with_reducible exact D1.out _ _ | with_reducible exact D2.out _ _ | with_reducible exact D3.out _ _))
  refine wpQuiet_nil ?_
  intro w6 hw'
  have hbq : Below w2.heap.size w2 w6 := by obtain ⟨pq, rfl⟩ := hw'; exact below_regrown _ _ _
  have HBq := Lib.hid (below_2 HB.out (below_2 HBZ.out hbq))
  clear r0 r1 r2 D1 D2 D3 hw' hbq
  go_wp2_with fail
  go_ret
  exact ⟨rfl, HBq.out⟩
end Go.Proofs.YtkjefigebdbkaaaGreatDoor.Q
