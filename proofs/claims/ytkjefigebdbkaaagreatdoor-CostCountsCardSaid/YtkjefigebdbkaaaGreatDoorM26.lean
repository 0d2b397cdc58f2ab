/-
  What the reference of layer 13 returns: plus, greater, times: contracts.
  What the reference of layer 13 returns: own: a contract.
  What the program's functions ofList, ofProc, Steps, Gets, Puts, Emits and Check of layer 13 return: contracts.
  What the reference of layer 13 returns: body: a contract.
  What the program's functions ofProc, Steps, Gets, Puts, Emits and Check of layer 13 return: contracts.
-/
import Derived.Test.YtkjefigebdbkaaaGreatDoorM25
import Derived.IntWalk
import Derived.Test.YtkjefigebdbkaaaGreatDoorM21
namespace Go.Proofs.YtkjefigebdbkaaaGreatDoor.Q
open Go.RowKit
open A (Bx)
open L (below_2 below_box ret_bool ret_int)
open P (On on_set off_of wp_region_inv2 IS FT deps Closed)

set_option maxHeartbeats 8000000 in
set_option maxRecDepth 100000 in
theorem rplus_core (a0 a1 a2 a3 b0 b1 b2 b3 : Int) (ha0 : 0 ≤ a0 ∧ a0 ≤ 1000000) (ha1 : 0 ≤ a1 ∧ a1 ≤ 1000000) (ha2 : 0 ≤ a2 ∧ a2 ≤ 1000000) (ha3 : 0 ≤ a3 ∧ a3 ≤ 1000000) (hb0 : 0 ≤ b0 ∧ b0 ≤ 1000000) (hb1 : 0 ≤ b1 ∧ b1 ≤ 1000000) (hb2 : 0 ≤ b2 ∧ b2 ≤ 1000000) (hb3 : 0 ≤ b3 ∧ b3 ≤ 1000000) (w : World) : Calls Tryz.prog 58 #[.agg #[.int .i64 a0, .int .i64 a1, .int .i64 a2, .int .i64 a3], .agg #[.int .i64 b0, .int .i64 b1, .int .i64 b2, .int .i64 b3]] w fun e w' => e = .returned (.agg #[.int .i64 (min (a0 + b0) 16385), .int .i64 (min (a1 + b1) 16385), .int .i64 (min (a2 + b2) 16385), .int .i64 (min (a3 + b3) 16385)]) ∧ Below w.heap.size w w' := by
  obtain ⟨z1, e1⟩ : ∃ z, z = w.alloc (.cells #[.int .i64 a0, .int .i64 a1, .int .i64 a2, .int .i64 a3] 34) := ⟨_, rfl⟩
  have bb1 : Below w.heap.size w z1 := by rw [e1]; exact below_box _ _
  have xx1 := Bx.new w #[.int .i64 a0, .int .i64 a1, .int .i64 a2, .int .i64 a3] 34
  rw [← e1] at xx1
  have s1 : z1.heap.size = w.heap.size + 1 := by rw [e1]; simp
  obtain ⟨z2, e2⟩ : ∃ z, z = z1.alloc (.cells #[.int .i64 b0, .int .i64 b1, .int .i64 b2, .int .i64 b3] 34) := ⟨_, rfl⟩
  have bb2 : Below z1.heap.size z1 z2 := by rw [e2]; exact below_box _ _
  have xx2 := Bx.new z1 #[.int .i64 b0, .int .i64 b1, .int .i64 b2, .int .i64 b3] 34
  rw [← e2] at xx2
  rw [s1] at xx2
  have s2 : z2.heap.size = w.heap.size + 1 + 1 := by rw [e2]; simp [s1]
  obtain ⟨z3, e3⟩ : ∃ z, z = z2.alloc (.cells #[.int .i64 0, .int .i64 0, .int .i64 0, .int .i64 0] 34) := ⟨_, rfl⟩
  have bb3 : Below z2.heap.size z2 z3 := by rw [e3]; exact below_box _ _
  have xx3 := Bx.new z2 #[.int .i64 0, .int .i64 0, .int .i64 0, .int .i64 0] 34
  rw [← e3] at xx3
  rw [s2] at xx3
  have HB := Lib.hid (below_2 (below_2 bb1 bb2) bb3)
  have HX1 := Lib.hid ((xx1.below bb2).below bb3)
  have HX2 := Lib.hid (xx2.below bb3)
  have HX3 := Lib.hid xx3
  have HW : Hid ((((w.alloc (.cells #[.int .i64 a0, .int .i64 a1, .int .i64 a2, .int .i64 a3] 34)).alloc (.cells #[.int .i64 b0, .int .i64 b1, .int .i64 b2, .int .i64 b3] 34)).alloc (.cells #[.int .i64 0, .int .i64 0, .int .i64 0, .int .i64 0] 34)) = z3) := by show _ = _; rw [← e1, ← e2, ← e3]
  clear e1 bb1 xx1 s1 e2 bb2 xx2 s2 e3 bb3 xx3
  have HS0 : Hid (IntKind.i64.wrap (a0 + b0) = a0 + b0) := IntWalk.i64_in _ (by omega)
  have HS1 : Hid (IntKind.i64.wrap (a1 + b1) = a1 + b1) := IntWalk.i64_in _ (by omega)
  have HS2 : Hid (IntKind.i64.wrap (a2 + b2) = a2 + b2) := IntWalk.i64_in _ (by omega)
  have HS3 : Hid (IntKind.i64.wrap (a3 + b3) = a3 + b3) := IntWalk.i64_in _ (by omega)
  have HC : Hid (∀ n w', Calls Tryz.prog 91 #[.int .i64 n] w' fun e w'' => e = .returned (.int .i64 (min n 16385)) ∧ Below w'.heap.size w' w'') := fun n w' => (rcut_any n w').mono fun e w'' h => ⟨h.1, h.2 ▸ Below.refl _ _⟩
  clear ha0 ha1 ha2 ha3 hb0 hb1 hb2 hb3
  go_enter Tryz.func58, Tryz.ntmps58
  go_upto_region 1 with fail
  rw [HW.out]
  refine wp_region_inv2 rfl (fun l a w' => ∃ v0 v1 v2 v3 v4 v5 v6 v7 v8 v9 v10 v11 v12 v13 v14 v15 v16 v17 v18 v19 v20 v21 v22 v23 v24 : Value, a = { tmps := #[Value.agg #[.int .i64 a0, .int .i64 a1, .int .i64 a2, .int .i64 a3], Value.agg #[.int .i64 b0, .int .i64 b1, .int .i64 b2, .int .i64 b3], Value.pointer (some { block := w.heap.size, off := 0 }), Value.pointer (some { block := w.heap.size + 1, off := 0 }), Value.pointer (some { block := w.heap.size + 1 + 1, off := 0 }), v0, v1, v2, v3, v4, v5, v6, v7, v8, v9, v10, v11, v12, v13, v14, v15, v16, v17, v18, v19, v20, v21, v22, v23, v24], defers := [] } ∧ ((¬ On l 25 ∧ IS (FT [some (.pointer (some ⟨w.heap.size, 0, none⟩)), some (.int .i64 a0), some (.pointer (some ⟨w.heap.size + 1, 0, none⟩)), some (.int .i64 b0), some (.int .i64 (a0 + b0)), some (.int .i64 (min (a0 + b0) 16385)), some (.pointer (some ⟨w.heap.size, 1, none⟩)), some (.int .i64 a1), some (.pointer (some ⟨w.heap.size + 1, 1, none⟩)), some (.int .i64 b1), some (.int .i64 (a1 + b1)), some (.int .i64 (min (a1 + b1) 16385)), some (.pointer (some ⟨w.heap.size, 2, none⟩)), some (.int .i64 a2), some (.pointer (some ⟨w.heap.size + 1, 2, none⟩)), some (.int .i64 b2), some (.int .i64 (a2 + b2)), some (.int .i64 (min (a2 + b2) 16385)), some (.pointer (some ⟨w.heap.size, 3, none⟩)), some (.int .i64 a3), some (.pointer (some ⟨w.heap.size + 1, 3, none⟩)), some (.int .i64 b3), some (.int .i64 (a3 + b3)), some (.int .i64 (min (a3 + b3) 16385)), some (.agg #[.int .i64 (min (a0 + b0) 16385), .int .i64 (min (a1 + b1) 16385), .int .i64 (min (a2 + b2) 16385), .int .i64 (min (a3 + b3) 16385)])] 34 #[] (0)) z3 l w' [v0, v1, v2, v3, v4, v5, v6, v7, v8, v9, v10, v11, v12, v13, v14, v15, v16, v17, v18, v19, v20, v21, v22, v23, v24]) ∨ (On l 25 ∧ Bx w' (w.heap.size + 1 + 1) #[.int .i64 (min (a0 + b0) 16385), .int .i64 (min (a1 + b1) 16385), .int .i64 (min (a2 + b2) 16385), .int .i64 (min (a3 + b3) 16385)] 34 ∧ Below w.heap.size w w'))) (by kernel_rfl) ?_ ?_ ?_
  · intro l hl
    exact ⟨_, _, _, _, _, _, _, _, _, _, _, _, _, _, _, _, _, _, _, _, _, _, _, _, _, rfl, Or.inl ⟨hl 25, IS.start _ _ hl _⟩⟩
  · rintro l a w' ⟨v0, v1, v2, v3, v4, v5, v6, v7, v8, v9, v10, v11, v12, v13, v14, v15, v16, v17, v18, v19, v20, v21, v22, v23, v24, rfl, hF⟩ hcl i hi h0 hall
    match i, hi, h0, hall with
    | 0, _, h0, hall =>
      have hno : ¬ On l 25 := fun z => off_of h0 (hcl 25 (z) 0 (by decide +kernel))
      obtain ⟨hnm, F⟩ := hF.resolve_right (fun z => hno z.1)
      have HNm : Hid (¬ On (l.setIfInBounds 0 true) 25) := fun z => hnm (((on_set h0 25).1 z).resolve_left (by decide))
      clear hF hnm hno
      have HF := Lib.hid (F.step FT.mono h0 (show 0 < 25 by decide) (Below.refl _ _) (x := .pointer (some ⟨w.heap.size, 0, none⟩)) rfl)
      clear F hall h0 hcl
      refine wpOp_step (by rfl) (fun K' hK => ?_)
      have HKk := Lib.hid hK
      clear hK
      go_simp
      exact HKk.out _ _ ⟨_, _, _, _, _, _, _, _, _, _, _, _, _, _, _, _, _, _, _, _, _, _, _, _, _, rfl, Or.inl ⟨HNm.out, HF.out⟩⟩
    | 1, _, h0, hall =>
      have hno : ¬ On l 25 := fun z => off_of h0 (hcl 25 (z) 1 (by decide +kernel))
      obtain ⟨hnm, F⟩ := hF.resolve_right (fun z => hno z.1)
      have HNm : Hid (¬ On (l.setIfInBounds 1 true) 25) := fun z => hnm (((on_set h0 25).1 z).resolve_left (by decide))
      clear hF hnm hno
      obtain rfl : v0 = .pointer (some ⟨w.heap.size, 0, none⟩) := F.f 0 (hall 0 (by decide +kernel))
      have q0 := (HX1.out.below F.bel).cell 0
      simp only [List.getElem?_toArray, List.getElem?_cons_zero] at q0
      have HF := Lib.hid (F.step FT.mono h0 (show 1 < 25 by decide) (Below.refl _ _) (x := .int .i64 a0) rfl)
      clear F hall h0 hcl
      refine wpOp_step (by rfl) (fun K' hK => ?_)
      have HKk := Lib.hid hK
      clear hK
      go_simp
      exact HKk.out _ _ ⟨_, _, _, _, _, _, _, _, _, _, _, _, _, _, _, _, _, _, _, _, _, _, _, _, _, rfl, Or.inl ⟨HNm.out, HF.out⟩⟩
    | 2, _, h0, hall =>
      have hno : ¬ On l 25 := fun z => off_of h0 (hcl 25 (z) 2 (by decide +kernel))
      obtain ⟨hnm, F⟩ := hF.resolve_right (fun z => hno z.1)
      have HNm : Hid (¬ On (l.setIfInBounds 2 true) 25) := fun z => hnm (((on_set h0 25).1 z).resolve_left (by decide))
      clear hF hnm hno
      have HF := Lib.hid (F.step FT.mono h0 (show 2 < 25 by decide) (Below.refl _ _) (x := .pointer (some ⟨w.heap.size + 1, 0, none⟩)) rfl)
      clear F hall h0 hcl
      refine wpOp_step (by rfl) (fun K' hK => ?_)
      have HKk := Lib.hid hK
      clear hK
      go_simp
      exact HKk.out _ _ ⟨_, _, _, _, _, _, _, _, _, _, _, _, _, _, _, _, _, _, _, _, _, _, _, _, _, rfl, Or.inl ⟨HNm.out, HF.out⟩⟩
    | 3, _, h0, hall =>
      have hno : ¬ On l 25 := fun z => off_of h0 (hcl 25 (z) 3 (by decide +kernel))
      obtain ⟨hnm, F⟩ := hF.resolve_right (fun z => hno z.1)
      have HNm : Hid (¬ On (l.setIfInBounds 3 true) 25) := fun z => hnm (((on_set h0 25).1 z).resolve_left (by decide))
      clear hF hnm hno
      obtain rfl : v2 = .pointer (some ⟨w.heap.size + 1, 0, none⟩) := F.f 2 (hall 2 (by decide +kernel))
      have q0 := (HX2.out.below F.bel).cell 0
      simp only [List.getElem?_toArray, List.getElem?_cons_zero] at q0
      have HF := Lib.hid (F.step FT.mono h0 (show 3 < 25 by decide) (Below.refl _ _) (x := .int .i64 b0) rfl)
      clear F hall h0 hcl
      refine wpOp_step (by rfl) (fun K' hK => ?_)
      have HKk := Lib.hid hK
      clear hK
      go_simp
      exact HKk.out _ _ ⟨_, _, _, _, _, _, _, _, _, _, _, _, _, _, _, _, _, _, _, _, _, _, _, _, _, rfl, Or.inl ⟨HNm.out, HF.out⟩⟩
    | 4, _, h0, hall =>
      have hno : ¬ On l 25 := fun z => off_of h0 (hcl 25 (z) 4 (by decide +kernel))
      obtain ⟨hnm, F⟩ := hF.resolve_right (fun z => hno z.1)
      have HNm : Hid (¬ On (l.setIfInBounds 4 true) 25) := fun z => hnm (((on_set h0 25).1 z).resolve_left (by decide))
      clear hF hnm hno
      obtain rfl : v1 = .int .i64 a0 := F.f 1 (hall 1 (by decide +kernel))
      obtain rfl : v3 = .int .i64 b0 := F.f 3 (hall 3 (by decide +kernel))
      have hw := HS0.out
      have HF := Lib.hid (F.step FT.mono h0 (show 4 < 25 by decide) (Below.refl _ _) (x := .int .i64 (a0 + b0)) rfl)
      clear F hall h0 hcl
      refine wpOp_step (by rfl) (fun K' hK => ?_)
      have HKk := Lib.hid hK
      clear hK
      go_simp
      exact HKk.out _ _ ⟨_, _, _, _, _, _, _, _, _, _, _, _, _, _, _, _, _, _, _, _, _, _, _, _, _, rfl, Or.inl ⟨HNm.out, HF.out⟩⟩
    | 5, _, h0, hall =>
      have hno : ¬ On l 25 := fun z => off_of h0 (hcl 25 (z) 5 (by decide +kernel))
      obtain ⟨hnm, F⟩ := hF.resolve_right (fun z => hno z.1)
      have HNm : Hid (¬ On (l.setIfInBounds 5 true) 25) := fun z => hnm (((on_set h0 25).1 z).resolve_left (by decide))
      clear hF hnm hno
      obtain rfl : v4 = .int .i64 (a0 + b0) := F.f 4 (hall 4 (by decide +kernel))
      have HC := Lib.hid (HC.out (a0 + b0) w')
      have HF := Lib.hid (fun w'' hb x hx => F.step FT.mono h0 (show 5 < 25 by decide) (w' := w'') hb (x := x) hx)
      clear F hall h0 hcl
      refine wpOp_step (by rfl) (fun K' hK => ?_)
      have HKk := Lib.hid hK
      clear hK
      go_simp
      go_at_call 91
      refine HC.out.mono ?_; rintro e' w5 ⟨rfl, hb5⟩
      have HF5 := Lib.hid (HF.out w5 hb5 (.int .i64 (min (a0 + b0) 16385)) rfl)
      exact HKk.out _ _ ⟨_, _, _, _, _, _, _, _, _, _, _, _, _, _, _, _, _, _, _, _, _, _, _, _, _, rfl, Or.inl ⟨HNm.out, HF5.out⟩⟩
    | 6, _, h0, hall =>
      have hno : ¬ On l 25 := fun z => off_of h0 (hcl 25 (z) 6 (by decide +kernel))
      obtain ⟨hnm, F⟩ := hF.resolve_right (fun z => hno z.1)
      have HNm : Hid (¬ On (l.setIfInBounds 6 true) 25) := fun z => hnm (((on_set h0 25).1 z).resolve_left (by decide))
      clear hF hnm hno
      have HF := Lib.hid (F.step FT.mono h0 (show 6 < 25 by decide) (Below.refl _ _) (x := .pointer (some ⟨w.heap.size, 1, none⟩)) rfl)
      clear F hall h0 hcl
      refine wpOp_step (by rfl) (fun K' hK => ?_)
      have HKk := Lib.hid hK
      clear hK
      go_simp
      exact HKk.out _ _ ⟨_, _, _, _, _, _, _, _, _, _, _, _, _, _, _, _, _, _, _, _, _, _, _, _, _, rfl, Or.inl ⟨HNm.out, HF.out⟩⟩
    | 7, _, h0, hall =>
      have hno : ¬ On l 25 := fun z => off_of h0 (hcl 25 (z) 7 (by decide +kernel))
      obtain ⟨hnm, F⟩ := hF.resolve_right (fun z => hno z.1)
      have HNm : Hid (¬ On (l.setIfInBounds 7 true) 25) := fun z => hnm (((on_set h0 25).1 z).resolve_left (by decide))
      clear hF hnm hno
      obtain rfl : v6 = .pointer (some ⟨w.heap.size, 1, none⟩) := F.f 6 (hall 6 (by decide +kernel))
      have q1 := (HX1.out.below F.bel).cell 1
      simp only [List.getElem?_toArray, List.getElem?_cons_zero, List.getElem?_cons_succ] at q1
      have HF := Lib.hid (F.step FT.mono h0 (show 7 < 25 by decide) (Below.refl _ _) (x := .int .i64 a1) rfl)
      clear F hall h0 hcl
      refine wpOp_step (by rfl) (fun K' hK => ?_)
      have HKk := Lib.hid hK
      clear hK
      go_simp
      exact HKk.out _ _ ⟨_, _, _, _, _, _, _, _, _, _, _, _, _, _, _, _, _, _, _, _, _, _, _, _, _, rfl, Or.inl ⟨HNm.out, HF.out⟩⟩
    | 8, _, h0, hall =>
      have hno : ¬ On l 25 := fun z => off_of h0 (hcl 25 (z) 8 (by decide +kernel))
      obtain ⟨hnm, F⟩ := hF.resolve_right (fun z => hno z.1)
      have HNm : Hid (¬ On (l.setIfInBounds 8 true) 25) := fun z => hnm (((on_set h0 25).1 z).resolve_left (by decide))
      clear hF hnm hno
      have HF := Lib.hid (F.step FT.mono h0 (show 8 < 25 by decide) (Below.refl _ _) (x := .pointer (some ⟨w.heap.size + 1, 1, none⟩)) rfl)
      clear F hall h0 hcl
      refine wpOp_step (by rfl) (fun K' hK => ?_)
      have HKk := Lib.hid hK
      clear hK
      go_simp
      exact HKk.out _ _ ⟨_, _, _, _, _, _, _, _, _, _, _, _, _, _, _, _, _, _, _, _, _, _, _, _, _, rfl, Or.inl ⟨HNm.out, HF.out⟩⟩
    | 9, _, h0, hall =>
      have hno : ¬ On l 25 := fun z => off_of h0 (hcl 25 (z) 9 (by decide +kernel))
      obtain ⟨hnm, F⟩ := hF.resolve_right (fun z => hno z.1)
      have HNm : Hid (¬ On (l.setIfInBounds 9 true) 25) := fun z => hnm (((on_set h0 25).1 z).resolve_left (by decide))
      clear hF hnm hno
      obtain rfl : v8 = .pointer (some ⟨w.heap.size + 1, 1, none⟩) := F.f 8 (hall 8 (by decide +kernel))
      have q1 := (HX2.out.below F.bel).cell 1
      simp only [List.getElem?_toArray, List.getElem?_cons_zero, List.getElem?_cons_succ] at q1
      have HF := Lib.hid (F.step FT.mono h0 (show 9 < 25 by decide) (Below.refl _ _) (x := .int .i64 b1) rfl)
      clear F hall h0 hcl
      refine wpOp_step (by rfl) (fun K' hK => ?_)
      have HKk := Lib.hid hK
      clear hK
      go_simp
      exact HKk.out _ _ ⟨_, _, _, _, _, _, _, _, _, _, _, _, _, _, _, _, _, _, _, _, _, _, _, _, _, rfl, Or.inl ⟨HNm.out, HF.out⟩⟩
    | 10, _, h0, hall =>
      have hno : ¬ On l 25 := fun z => off_of h0 (hcl 25 (z) 10 (by decide +kernel))
      obtain ⟨hnm, F⟩ := hF.resolve_right (fun z => hno z.1)
      have HNm : Hid (¬ On (l.setIfInBounds 10 true) 25) := fun z => hnm (((on_set h0 25).1 z).resolve_left (by decide))
      clear hF hnm hno
      obtain rfl : v7 = .int .i64 a1 := F.f 7 (hall 7 (by decide +kernel))
      obtain rfl : v9 = .int .i64 b1 := F.f 9 (hall 9 (by decide +kernel))
      have hw := HS1.out
      have HF := Lib.hid (F.step FT.mono h0 (show 10 < 25 by decide) (Below.refl _ _) (x := .int .i64 (a1 + b1)) rfl)
      clear F hall h0 hcl
      refine wpOp_step (by rfl) (fun K' hK => ?_)
      have HKk := Lib.hid hK
      clear hK
      go_simp
      exact HKk.out _ _ ⟨_, _, _, _, _, _, _, _, _, _, _, _, _, _, _, _, _, _, _, _, _, _, _, _, _, rfl, Or.inl ⟨HNm.out, HF.out⟩⟩
    | 11, _, h0, hall =>
      have hno : ¬ On l 25 := fun z => off_of h0 (hcl 25 (z) 11 (by decide +kernel))
      obtain ⟨hnm, F⟩ := hF.resolve_right (fun z => hno z.1)
      have HNm : Hid (¬ On (l.setIfInBounds 11 true) 25) := fun z => hnm (((on_set h0 25).1 z).resolve_left (by decide))
      clear hF hnm hno
      obtain rfl : v10 = .int .i64 (a1 + b1) := F.f 10 (hall 10 (by decide +kernel))
      have HC := Lib.hid (HC.out (a1 + b1) w')
      have HF := Lib.hid (fun w'' hb x hx => F.step FT.mono h0 (show 11 < 25 by decide) (w' := w'') hb (x := x) hx)
      clear F hall h0 hcl
      refine wpOp_step (by rfl) (fun K' hK => ?_)
      have HKk := Lib.hid hK
      clear hK
      go_simp
      go_at_call 91
      refine HC.out.mono ?_; rintro e' w5 ⟨rfl, hb5⟩
      have HF5 := Lib.hid (HF.out w5 hb5 (.int .i64 (min (a1 + b1) 16385)) rfl)
      exact HKk.out _ _ ⟨_, _, _, _, _, _, _, _, _, _, _, _, _, _, _, _, _, _, _, _, _, _, _, _, _, rfl, Or.inl ⟨HNm.out, HF5.out⟩⟩
    | 12, _, h0, hall =>
      have hno : ¬ On l 25 := fun z => off_of h0 (hcl 25 (z) 12 (by decide +kernel))
      obtain ⟨hnm, F⟩ := hF.resolve_right (fun z => hno z.1)
      have HNm : Hid (¬ On (l.setIfInBounds 12 true) 25) := fun z => hnm (((on_set h0 25).1 z).resolve_left (by decide))
      clear hF hnm hno
      have HF := Lib.hid (F.step FT.mono h0 (show 12 < 25 by decide) (Below.refl _ _) (x := .pointer (some ⟨w.heap.size, 2, none⟩)) rfl)
      clear F hall h0 hcl
      refine wpOp_step (by rfl) (fun K' hK => ?_)
      have HKk := Lib.hid hK
      clear hK
      go_simp
      exact HKk.out _ _ ⟨_, _, _, _, _, _, _, _, _, _, _, _, _, _, _, _, _, _, _, _, _, _, _, _, _, rfl, Or.inl ⟨HNm.out, HF.out⟩⟩
    | 13, _, h0, hall =>
      have hno : ¬ On l 25 := fun z => off_of h0 (hcl 25 (z) 13 (by decide +kernel))
      obtain ⟨hnm, F⟩ := hF.resolve_right (fun z => hno z.1)
      have HNm : Hid (¬ On (l.setIfInBounds 13 true) 25) := fun z => hnm (((on_set h0 25).1 z).resolve_left (by decide))
      clear hF hnm hno
      obtain rfl : v12 = .pointer (some ⟨w.heap.size, 2, none⟩) := F.f 12 (hall 12 (by decide +kernel))
      have q2 := (HX1.out.below F.bel).cell 2
      simp only [List.getElem?_toArray, List.getElem?_cons_zero, List.getElem?_cons_succ] at q2
      have HF := Lib.hid (F.step FT.mono h0 (show 13 < 25 by decide) (Below.refl _ _) (x := .int .i64 a2) rfl)
      clear F hall h0 hcl
      refine wpOp_step (by rfl) (fun K' hK => ?_)
      have HKk := Lib.hid hK
      clear hK
      go_simp
      exact HKk.out _ _ ⟨_, _, _, _, _, _, _, _, _, _, _, _, _, _, _, _, _, _, _, _, _, _, _, _, _, rfl, Or.inl ⟨HNm.out, HF.out⟩⟩
    | 14, _, h0, hall =>
      have hno : ¬ On l 25 := fun z => off_of h0 (hcl 25 (z) 14 (by decide +kernel))
      obtain ⟨hnm, F⟩ := hF.resolve_right (fun z => hno z.1)
      have HNm : Hid (¬ On (l.setIfInBounds 14 true) 25) := fun z => hnm (((on_set h0 25).1 z).resolve_left (by decide))
      clear hF hnm hno
      have HF := Lib.hid (F.step FT.mono h0 (show 14 < 25 by decide) (Below.refl _ _) (x := .pointer (some ⟨w.heap.size + 1, 2, none⟩)) rfl)
      clear F hall h0 hcl
      refine wpOp_step (by rfl) (fun K' hK => ?_)
      have HKk := Lib.hid hK
      clear hK
      go_simp
      exact HKk.out _ _ ⟨_, _, _, _, _, _, _, _, _, _, _, _, _, _, _, _, _, _, _, _, _, _, _, _, _, rfl, Or.inl ⟨HNm.out, HF.out⟩⟩
    | 15, _, h0, hall =>
      have hno : ¬ On l 25 := fun z => off_of h0 (hcl 25 (z) 15 (by decide +kernel))
      obtain ⟨hnm, F⟩ := hF.resolve_right (fun z => hno z.1)
      have HNm : Hid (¬ On (l.setIfInBounds 15 true) 25) := fun z => hnm (((on_set h0 25).1 z).resolve_left (by decide))
      clear hF hnm hno
      obtain rfl : v14 = .pointer (some ⟨w.heap.size + 1, 2, none⟩) := F.f 14 (hall 14 (by decide +kernel))
      have q2 := (HX2.out.below F.bel).cell 2
      simp only [List.getElem?_toArray, List.getElem?_cons_zero, List.getElem?_cons_succ] at q2
      have HF := Lib.hid (F.step FT.mono h0 (show 15 < 25 by decide) (Below.refl _ _) (x := .int .i64 b2) rfl)
      clear F hall h0 hcl
      refine wpOp_step (by rfl) (fun K' hK => ?_)
      have HKk := Lib.hid hK
      clear hK
      go_simp
      exact HKk.out _ _ ⟨_, _, _, _, _, _, _, _, _, _, _, _, _, _, _, _, _, _, _, _, _, _, _, _, _, rfl, Or.inl ⟨HNm.out, HF.out⟩⟩
    | 16, _, h0, hall =>
      have hno : ¬ On l 25 := fun z => off_of h0 (hcl 25 (z) 16 (by decide +kernel))
      obtain ⟨hnm, F⟩ := hF.resolve_right (fun z => hno z.1)
      have HNm : Hid (¬ On (l.setIfInBounds 16 true) 25) := fun z => hnm (((on_set h0 25).1 z).resolve_left (by decide))
      clear hF hnm hno
      obtain rfl : v13 = .int .i64 a2 := F.f 13 (hall 13 (by decide +kernel))
      obtain rfl : v15 = .int .i64 b2 := F.f 15 (hall 15 (by decide +kernel))
      have hw := HS2.out
      have HF := Lib.hid (F.step FT.mono h0 (show 16 < 25 by decide) (Below.refl _ _) (x := .int .i64 (a2 + b2)) rfl)
      clear F hall h0 hcl
      refine wpOp_step (by rfl) (fun K' hK => ?_)
      have HKk := Lib.hid hK
      clear hK
      go_simp
      exact HKk.out _ _ ⟨_, _, _, _, _, _, _, _, _, _, _, _, _, _, _, _, _, _, _, _, _, _, _, _, _, rfl, Or.inl ⟨HNm.out, HF.out⟩⟩
    | 17, _, h0, hall =>
      have hno : ¬ On l 25 := fun z => off_of h0 (hcl 25 (z) 17 (by decide +kernel))
      obtain ⟨hnm, F⟩ := hF.resolve_right (fun z => hno z.1)
      have HNm : Hid (¬ On (l.setIfInBounds 17 true) 25) := fun z => hnm (((on_set h0 25).1 z).resolve_left (by decide))
      clear hF hnm hno
      obtain rfl : v16 = .int .i64 (a2 + b2) := F.f 16 (hall 16 (by decide +kernel))
      have HC := Lib.hid (HC.out (a2 + b2) w')
      have HF := Lib.hid (fun w'' hb x hx => F.step FT.mono h0 (show 17 < 25 by decide) (w' := w'') hb (x := x) hx)
      clear F hall h0 hcl
      refine wpOp_step (by rfl) (fun K' hK => ?_)
      have HKk := Lib.hid hK
      clear hK
      go_simp
      go_at_call 91
      refine HC.out.mono ?_; rintro e' w5 ⟨rfl, hb5⟩
      have HF5 := Lib.hid (HF.out w5 hb5 (.int .i64 (min (a2 + b2) 16385)) rfl)
      exact HKk.out _ _ ⟨_, _, _, _, _, _, _, _, _, _, _, _, _, _, _, _, _, _, _, _, _, _, _, _, _, rfl, Or.inl ⟨HNm.out, HF5.out⟩⟩
    | 18, _, h0, hall =>
      have hno : ¬ On l 25 := fun z => off_of h0 (hcl 25 (z) 18 (by decide +kernel))
      obtain ⟨hnm, F⟩ := hF.resolve_right (fun z => hno z.1)
      have HNm : Hid (¬ On (l.setIfInBounds 18 true) 25) := fun z => hnm (((on_set h0 25).1 z).resolve_left (by decide))
      clear hF hnm hno
      have HF := Lib.hid (F.step FT.mono h0 (show 18 < 25 by decide) (Below.refl _ _) (x := .pointer (some ⟨w.heap.size, 3, none⟩)) rfl)
      clear F hall h0 hcl
      refine wpOp_step (by rfl) (fun K' hK => ?_)
      have HKk := Lib.hid hK
      clear hK
      go_simp
      exact HKk.out _ _ ⟨_, _, _, _, _, _, _, _, _, _, _, _, _, _, _, _, _, _, _, _, _, _, _, _, _, rfl, Or.inl ⟨HNm.out, HF.out⟩⟩
    | 19, _, h0, hall =>
      have hno : ¬ On l 25 := fun z => off_of h0 (hcl 25 (z) 19 (by decide +kernel))
      obtain ⟨hnm, F⟩ := hF.resolve_right (fun z => hno z.1)
      have HNm : Hid (¬ On (l.setIfInBounds 19 true) 25) := fun z => hnm (((on_set h0 25).1 z).resolve_left (by decide))
      clear hF hnm hno
      obtain rfl : v18 = .pointer (some ⟨w.heap.size, 3, none⟩) := F.f 18 (hall 18 (by decide +kernel))
      have q3 := (HX1.out.below F.bel).cell 3
      simp only [List.getElem?_toArray, List.getElem?_cons_zero, List.getElem?_cons_succ] at q3
      have HF := Lib.hid (F.step FT.mono h0 (show 19 < 25 by decide) (Below.refl _ _) (x := .int .i64 a3) rfl)
      clear F hall h0 hcl
      refine wpOp_step (by rfl) (fun K' hK => ?_)
      have HKk := Lib.hid hK
      clear hK
      go_simp
      exact HKk.out _ _ ⟨_, _, _, _, _, _, _, _, _, _, _, _, _, _, _, _, _, _, _, _, _, _, _, _, _, rfl, Or.inl ⟨HNm.out, HF.out⟩⟩
    | 20, _, h0, hall =>
      have hno : ¬ On l 25 := fun z => off_of h0 (hcl 25 (z) 20 (by decide +kernel))
      obtain ⟨hnm, F⟩ := hF.resolve_right (fun z => hno z.1)
      have HNm : Hid (¬ On (l.setIfInBounds 20 true) 25) := fun z => hnm (((on_set h0 25).1 z).resolve_left (by decide))
      clear hF hnm hno
      have HF := Lib.hid (F.step FT.mono h0 (show 20 < 25 by decide) (Below.refl _ _) (x := .pointer (some ⟨w.heap.size + 1, 3, none⟩)) rfl)
      clear F hall h0 hcl
      refine wpOp_step (by rfl) (fun K' hK => ?_)
      have HKk := Lib.hid hK
      clear hK
      go_simp
      exact HKk.out _ _ ⟨_, _, _, _, _, _, _, _, _, _, _, _, _, _, _, _, _, _, _, _, _, _, _, _, _, rfl, Or.inl ⟨HNm.out, HF.out⟩⟩
    | 21, _, h0, hall =>
      have hno : ¬ On l 25 := fun z => off_of h0 (hcl 25 (z) 21 (by decide +kernel))
      obtain ⟨hnm, F⟩ := hF.resolve_right (fun z => hno z.1)
      have HNm : Hid (¬ On (l.setIfInBounds 21 true) 25) := fun z => hnm (((on_set h0 25).1 z).resolve_left (by decide))
      clear hF hnm hno
      obtain rfl : v20 = .pointer (some ⟨w.heap.size + 1, 3, none⟩) := F.f 20 (hall 20 (by decide +kernel))
      have q3 := (HX2.out.below F.bel).cell 3
      simp only [List.getElem?_toArray, List.getElem?_cons_zero, List.getElem?_cons_succ] at q3
      have HF := Lib.hid (F.step FT.mono h0 (show 21 < 25 by decide) (Below.refl _ _) (x := .int .i64 b3) rfl)
      clear F hall h0 hcl
      refine wpOp_step (by rfl) (fun K' hK => ?_)
      have HKk := Lib.hid hK
      clear hK
      go_simp
      exact HKk.out _ _ ⟨_, _, _, _, _, _, _, _, _, _, _, _, _, _, _, _, _, _, _, _, _, _, _, _, _, rfl, Or.inl ⟨HNm.out, HF.out⟩⟩
    | 22, _, h0, hall =>
      have hno : ¬ On l 25 := fun z => off_of h0 (hcl 25 (z) 22 (by decide +kernel))
      obtain ⟨hnm, F⟩ := hF.resolve_right (fun z => hno z.1)
      have HNm : Hid (¬ On (l.setIfInBounds 22 true) 25) := fun z => hnm (((on_set h0 25).1 z).resolve_left (by decide))
      clear hF hnm hno
      obtain rfl : v19 = .int .i64 a3 := F.f 19 (hall 19 (by decide +kernel))
      obtain rfl : v21 = .int .i64 b3 := F.f 21 (hall 21 (by decide +kernel))
      have hw := HS3.out
      have HF := Lib.hid (F.step FT.mono h0 (show 22 < 25 by decide) (Below.refl _ _) (x := .int .i64 (a3 + b3)) rfl)
      clear F hall h0 hcl
      refine wpOp_step (by rfl) (fun K' hK => ?_)
      have HKk := Lib.hid hK
      clear hK
      go_simp
      exact HKk.out _ _ ⟨_, _, _, _, _, _, _, _, _, _, _, _, _, _, _, _, _, _, _, _, _, _, _, _, _, rfl, Or.inl ⟨HNm.out, HF.out⟩⟩
    | 23, _, h0, hall =>
      have hno : ¬ On l 25 := fun z => off_of h0 (hcl 25 (z) 23 (by decide +kernel))
      obtain ⟨hnm, F⟩ := hF.resolve_right (fun z => hno z.1)
      have HNm : Hid (¬ On (l.setIfInBounds 23 true) 25) := fun z => hnm (((on_set h0 25).1 z).resolve_left (by decide))
      clear hF hnm hno
      obtain rfl : v22 = .int .i64 (a3 + b3) := F.f 22 (hall 22 (by decide +kernel))
      have HC := Lib.hid (HC.out (a3 + b3) w')
      have HF := Lib.hid (fun w'' hb x hx => F.step FT.mono h0 (show 23 < 25 by decide) (w' := w'') hb (x := x) hx)
      clear F hall h0 hcl
      refine wpOp_step (by rfl) (fun K' hK => ?_)
      have HKk := Lib.hid hK
      clear hK
      go_simp
      go_at_call 91
      refine HC.out.mono ?_; rintro e' w5 ⟨rfl, hb5⟩
      have HF5 := Lib.hid (HF.out w5 hb5 (.int .i64 (min (a3 + b3) 16385)) rfl)
      exact HKk.out _ _ ⟨_, _, _, _, _, _, _, _, _, _, _, _, _, _, _, _, _, _, _, _, _, _, _, _, _, rfl, Or.inl ⟨HNm.out, HF5.out⟩⟩
    | 24, _, h0, hall =>
      have hno : ¬ On l 25 := fun z => off_of h0 (hcl 25 (z) 24 (by decide +kernel))
      obtain ⟨hnm, F⟩ := hF.resolve_right (fun z => hno z.1)
      have HNm : Hid (¬ On (l.setIfInBounds 24 true) 25) := fun z => hnm (((on_set h0 25).1 z).resolve_left (by decide))
      clear hF hnm hno
      obtain rfl : v5 = .int .i64 (min (a0 + b0) 16385) := F.f 5 (hall 5 (by decide +kernel))
      obtain rfl : v11 = .int .i64 (min (a1 + b1) 16385) := F.f 11 (hall 11 (by decide +kernel))
      obtain rfl : v17 = .int .i64 (min (a2 + b2) 16385) := F.f 17 (hall 17 (by decide +kernel))
      obtain rfl : v23 = .int .i64 (min (a3 + b3) 16385) := F.f 23 (hall 23 (by decide +kernel))
      have HF := Lib.hid (F.step FT.mono h0 (show 24 < 25 by decide) (Below.refl _ _) (x := .agg #[.int .i64 (min (a0 + b0) 16385), .int .i64 (min (a1 + b1) 16385), .int .i64 (min (a2 + b2) 16385), .int .i64 (min (a3 + b3) 16385)]) rfl)
      clear F hall h0 hcl
      refine wpOp_step (by rfl) (fun K' hK => ?_)
      have HKk := Lib.hid hK
      clear hK
      go_simp
      exact HKk.out _ _ ⟨_, _, _, _, _, _, _, _, _, _, _, _, _, _, _, _, _, _, _, _, _, _, _, _, _, rfl, Or.inl ⟨HNm.out, HF.out⟩⟩
    | 25, _, h0, hall =>
      obtain ⟨hnm, F⟩ := hF.resolve_right (fun z => off_of h0 z.1)
      obtain rfl : v24 = .agg #[.int .i64 (min (a0 + b0) 16385), .int .i64 (min (a1 + b1) 16385), .int .i64 (min (a2 + b2) 16385), .int .i64 (min (a3 + b3) 16385)] := F.f 24 (hall 24 (by decide +kernel))
      have hZZ := HX3.out.below F.bel
      obtain ⟨q0, q1, q2, q3, q4, q5, q6, q7⟩ := four_open (hZZ)
      have HFin : Hid (On (l.setIfInBounds 25 true) 25 ∧ Bx ((((w'.setCell ⟨w.heap.size + 1 + 1, 0, none⟩ (.int .i64 (min (a0 + b0) 16385))).setCell ⟨w.heap.size + 1 + 1, 1, none⟩ (.int .i64 (min (a1 + b1) 16385))).setCell ⟨w.heap.size + 1 + 1, 2, none⟩ (.int .i64 (min (a2 + b2) 16385))).setCell ⟨w.heap.size + 1 + 1, 3, none⟩ (.int .i64 (min (a3 + b3) 16385))) (w.heap.size + 1 + 1) #[.int .i64 (min (a0 + b0) 16385), .int .i64 (min (a1 + b1) 16385), .int .i64 (min (a2 + b2) 16385), .int .i64 (min (a3 + b3) 16385)] 34 ∧ Below w.heap.size w ((((w'.setCell ⟨w.heap.size + 1 + 1, 0, none⟩ (.int .i64 (min (a0 + b0) 16385))).setCell ⟨w.heap.size + 1 + 1, 1, none⟩ (.int .i64 (min (a1 + b1) 16385))).setCell ⟨w.heap.size + 1 + 1, 2, none⟩ (.int .i64 (min (a2 + b2) 16385))).setCell ⟨w.heap.size + 1 + 1, 3, none⟩ (.int .i64 (min (a3 + b3) 16385)))) := ⟨(on_set h0 25).2 (Or.inl rfl), four_set hZZ _ _ _ _, four_below (below_2 HB.out F.bel) (Nat.le_add_right _ 2) _ _ _ _⟩
      clear hall h0 hcl F hF hnm
      clear hZZ
      refine wpOp_step (by rfl) (fun K' hK => ?_)
      have HKk := Lib.hid hK
      clear hK
      go_simp
      exact HKk.out _ _ ⟨_, _, _, _, _, _, _, _, _, _, _, _, _, _, _, _, _, _, _, _, _, _, _, _, _, rfl, Or.inr HFin.out⟩
    | i + 26, hi, _, _ => exact absurd hi (by show ¬ (i + 26 < 26); omega)
  rintro l9 a wz ⟨r0, r1, r2, r3, r4, r5, r6, r7, r8, r9, r10, r11, r12, r13, r14, r15, r16, r17, r18, r19, r20, r21, r22, r23, r24, rfl, hF⟩ hall
  obtain ⟨_, hz, hbel⟩ := hF.resolve_left (fun z => z.1 (hall 25 (by decide)))
  clear hF hall
  have q0 := hz.cell 0
  have q1 := hz.cell 1
  have q2 := hz.cell 2
  have q3 := hz.cell 3
  simp only [List.getElem?_toArray, List.getElem?_cons_zero, List.getElem?_cons_succ] at q0 q1 q2 q3
  clear hz
  go_wp2_with fail
  refine bodyPost_ret (v := .agg #[.int .i64 (min (a0 + b0) 16385), .int .i64 (min (a1 + b1) 16385), .int .i64 (min (a2 + b2) 16385), .int .i64 (min (a3 + b3) 16385)]) (by simp [results, Tryz.results58, go_sem, q0, q1, q2, q3]) rfl ?_
  exact ⟨rfl, hbel⟩
set_option maxHeartbeats 8000000 in
set_option maxRecDepth 100000 in
theorem rtimes_core (n a0 a1 a2 a3 : Int) (hm0 : 0 ≤ n * a0 ∧ n * a0 ≤ 1000000000000) (hm1 : 0 ≤ n * a1 ∧ n * a1 ≤ 1000000000000) (hm2 : 0 ≤ n * a2 ∧ n * a2 ≤ 1000000000000) (hm3 : 0 ≤ n * a3 ∧ n * a3 ≤ 1000000000000) (w : World) : Calls Tryz.prog 60 #[.int .i64 n, .agg #[.int .i64 a0, .int .i64 a1, .int .i64 a2, .int .i64 a3]] w fun e w' => e = .returned (.agg #[.int .i64 (min (n * a0) 16385), .int .i64 (min (n * a1) 16385), .int .i64 (min (n * a2) 16385), .int .i64 (min (n * a3) 16385)]) ∧ Below w.heap.size w w' := by
  obtain ⟨z1, e1⟩ : ∃ z, z = w.alloc (.cells #[.int .i64 a0, .int .i64 a1, .int .i64 a2, .int .i64 a3] 34) := ⟨_, rfl⟩
  have bb1 : Below w.heap.size w z1 := by rw [e1]; exact below_box _ _
  have xx1 := Bx.new w #[.int .i64 a0, .int .i64 a1, .int .i64 a2, .int .i64 a3] 34
  rw [← e1] at xx1
  have s1 : z1.heap.size = w.heap.size + 1 := by rw [e1]; simp
  obtain ⟨z2, e2⟩ : ∃ z, z = z1.alloc (.cells #[.int .i64 0, .int .i64 0, .int .i64 0, .int .i64 0] 34) := ⟨_, rfl⟩
  have bb2 : Below z1.heap.size z1 z2 := by rw [e2]; exact below_box _ _
  have xx2 := Bx.new z1 #[.int .i64 0, .int .i64 0, .int .i64 0, .int .i64 0] 34
  rw [← e2] at xx2
  rw [s1] at xx2
  have HB := Lib.hid (below_2 bb1 bb2)
  have HX1 := Lib.hid (xx1.below bb2)
  have HX2 := Lib.hid xx2
  have HW : Hid (((w.alloc (.cells #[.int .i64 a0, .int .i64 a1, .int .i64 a2, .int .i64 a3] 34)).alloc (.cells #[.int .i64 0, .int .i64 0, .int .i64 0, .int .i64 0] 34)) = z2) := by show _ = _; rw [← e1, ← e2]
  clear e1 bb1 xx1 s1 e2 bb2 xx2
  have HS0 : Hid (IntKind.i64.wrap (n * a0) = n * a0) := IntWalk.i64_in _ (by omega)
  have HS1 : Hid (IntKind.i64.wrap (n * a1) = n * a1) := IntWalk.i64_in _ (by omega)
  have HS2 : Hid (IntKind.i64.wrap (n * a2) = n * a2) := IntWalk.i64_in _ (by omega)
  have HS3 : Hid (IntKind.i64.wrap (n * a3) = n * a3) := IntWalk.i64_in _ (by omega)
  have HC : Hid (∀ n w', Calls Tryz.prog 91 #[.int .i64 n] w' fun e w'' => e = .returned (.int .i64 (min n 16385)) ∧ Below w'.heap.size w' w'') := fun n w' => (rcut_any n w').mono fun e w'' h => ⟨h.1, h.2 ▸ Below.refl _ _⟩
  clear hm0 hm1 hm2 hm3
  go_enter Tryz.func60, Tryz.ntmps60
  go_upto_region 1 with fail
  rw [HW.out]
  refine wp_region_inv2 rfl (fun l a w' => ∃ v0 v1 v2 v3 v4 v5 v6 v7 v8 v9 v10 v11 v12 v13 v14 v15 v16 v17 v18 v19 v20 : Value, a = { tmps := #[Value.int .i64 n, Value.agg #[.int .i64 a0, .int .i64 a1, .int .i64 a2, .int .i64 a3], undef, Value.pointer (some { block := w.heap.size, off := 0 }), Value.pointer (some { block := w.heap.size + 1, off := 0 }), v0, v1, v2, v3, v4, v5, v6, v7, v8, v9, v10, v11, v12, v13, v14, v15, v16, v17, v18, v19, v20], defers := [] } ∧ ((¬ On l 21 ∧ IS (FT [some (.int .i64 n), some (.pointer (some ⟨w.heap.size, 0, none⟩)), some (.int .i64 a0), some (.int .i64 (n * a0)), some (.int .i64 (min (n * a0) 16385)), some (.int .i64 n), some (.pointer (some ⟨w.heap.size, 1, none⟩)), some (.int .i64 a1), some (.int .i64 (n * a1)), some (.int .i64 (min (n * a1) 16385)), some (.int .i64 n), some (.pointer (some ⟨w.heap.size, 2, none⟩)), some (.int .i64 a2), some (.int .i64 (n * a2)), some (.int .i64 (min (n * a2) 16385)), some (.int .i64 n), some (.pointer (some ⟨w.heap.size, 3, none⟩)), some (.int .i64 a3), some (.int .i64 (n * a3)), some (.int .i64 (min (n * a3) 16385)), some (.agg #[.int .i64 (min (n * a0) 16385), .int .i64 (min (n * a1) 16385), .int .i64 (min (n * a2) 16385), .int .i64 (min (n * a3) 16385)])] 34 #[] (0)) z2 l w' [v0, v1, v2, v3, v4, v5, v6, v7, v8, v9, v10, v11, v12, v13, v14, v15, v16, v17, v18, v19, v20]) ∨ (On l 21 ∧ Bx w' (w.heap.size + 1) #[.int .i64 (min (n * a0) 16385), .int .i64 (min (n * a1) 16385), .int .i64 (min (n * a2) 16385), .int .i64 (min (n * a3) 16385)] 34 ∧ Below w.heap.size w w'))) (by kernel_rfl) ?_ ?_ ?_
  · intro l hl
    exact ⟨_, _, _, _, _, _, _, _, _, _, _, _, _, _, _, _, _, _, _, _, _, rfl, Or.inl ⟨hl 21, IS.start _ _ hl _⟩⟩
  · rintro l a w' ⟨v0, v1, v2, v3, v4, v5, v6, v7, v8, v9, v10, v11, v12, v13, v14, v15, v16, v17, v18, v19, v20, rfl, hF⟩ hcl i hi h0 hall
    match i, hi, h0, hall with
    | 0, _, h0, hall =>
      have hno : ¬ On l 21 := fun z => off_of h0 (hcl 21 (z) 0 (by decide +kernel))
      obtain ⟨hnm, F⟩ := hF.resolve_right (fun z => hno z.1)
      have HNm : Hid (¬ On (l.setIfInBounds 0 true) 21) := fun z => hnm (((on_set h0 21).1 z).resolve_left (by decide))
      clear hF hnm hno
      have HF := Lib.hid (F.step FT.mono h0 (show 0 < 21 by decide) (Below.refl _ _) (x := .int .i64 n) rfl)
      clear F hall h0 hcl
      refine wpOp_step (by rfl) (fun K' hK => ?_)
      have HKk := Lib.hid hK
      clear hK
      go_simp
      exact HKk.out _ _ ⟨_, _, _, _, _, _, _, _, _, _, _, _, _, _, _, _, _, _, _, _, _, rfl, Or.inl ⟨HNm.out, HF.out⟩⟩
    | 1, _, h0, hall =>
      have hno : ¬ On l 21 := fun z => off_of h0 (hcl 21 (z) 1 (by decide +kernel))
      obtain ⟨hnm, F⟩ := hF.resolve_right (fun z => hno z.1)
      have HNm : Hid (¬ On (l.setIfInBounds 1 true) 21) := fun z => hnm (((on_set h0 21).1 z).resolve_left (by decide))
      clear hF hnm hno
      have HF := Lib.hid (F.step FT.mono h0 (show 1 < 21 by decide) (Below.refl _ _) (x := .pointer (some ⟨w.heap.size, 0, none⟩)) rfl)
      clear F hall h0 hcl
      refine wpOp_step (by rfl) (fun K' hK => ?_)
      have HKk := Lib.hid hK
      clear hK
      go_simp
      exact HKk.out _ _ ⟨_, _, _, _, _, _, _, _, _, _, _, _, _, _, _, _, _, _, _, _, _, rfl, Or.inl ⟨HNm.out, HF.out⟩⟩
    | 2, _, h0, hall =>
      have hno : ¬ On l 21 := fun z => off_of h0 (hcl 21 (z) 2 (by decide +kernel))
      obtain ⟨hnm, F⟩ := hF.resolve_right (fun z => hno z.1)
      have HNm : Hid (¬ On (l.setIfInBounds 2 true) 21) := fun z => hnm (((on_set h0 21).1 z).resolve_left (by decide))
      clear hF hnm hno
      obtain rfl : v1 = .pointer (some ⟨w.heap.size, 0, none⟩) := F.f 1 (hall 1 (by decide +kernel))
      have q0 := (HX1.out.below F.bel).cell 0
      simp only [List.getElem?_toArray, List.getElem?_cons_zero] at q0
      have HF := Lib.hid (F.step FT.mono h0 (show 2 < 21 by decide) (Below.refl _ _) (x := .int .i64 a0) rfl)
      clear F hall h0 hcl
      refine wpOp_step (by rfl) (fun K' hK => ?_)
      have HKk := Lib.hid hK
      clear hK
      go_simp
      exact HKk.out _ _ ⟨_, _, _, _, _, _, _, _, _, _, _, _, _, _, _, _, _, _, _, _, _, rfl, Or.inl ⟨HNm.out, HF.out⟩⟩
    | 3, _, h0, hall =>
      have hno : ¬ On l 21 := fun z => off_of h0 (hcl 21 (z) 3 (by decide +kernel))
      obtain ⟨hnm, F⟩ := hF.resolve_right (fun z => hno z.1)
      have HNm : Hid (¬ On (l.setIfInBounds 3 true) 21) := fun z => hnm (((on_set h0 21).1 z).resolve_left (by decide))
      clear hF hnm hno
      obtain rfl : v0 = .int .i64 n := F.f 0 (hall 0 (by decide +kernel))
      obtain rfl : v2 = .int .i64 a0 := F.f 2 (hall 2 (by decide +kernel))
      have hw := HS0.out
      have HF := Lib.hid (F.step FT.mono h0 (show 3 < 21 by decide) (Below.refl _ _) (x := .int .i64 (n * a0)) rfl)
      clear F hall h0 hcl
      refine wpOp_step (by rfl) (fun K' hK => ?_)
      have HKk := Lib.hid hK
      clear hK
      go_simp
      exact HKk.out _ _ ⟨_, _, _, _, _, _, _, _, _, _, _, _, _, _, _, _, _, _, _, _, _, rfl, Or.inl ⟨HNm.out, HF.out⟩⟩
    | 4, _, h0, hall =>
      have hno : ¬ On l 21 := fun z => off_of h0 (hcl 21 (z) 4 (by decide +kernel))
      obtain ⟨hnm, F⟩ := hF.resolve_right (fun z => hno z.1)
      have HNm : Hid (¬ On (l.setIfInBounds 4 true) 21) := fun z => hnm (((on_set h0 21).1 z).resolve_left (by decide))
      clear hF hnm hno
      obtain rfl : v3 = .int .i64 (n * a0) := F.f 3 (hall 3 (by decide +kernel))
      have HC := Lib.hid (HC.out (n * a0) w')
      have HF := Lib.hid (fun w'' hb x hx => F.step FT.mono h0 (show 4 < 21 by decide) (w' := w'') hb (x := x) hx)
      clear F hall h0 hcl
      refine wpOp_step (by rfl) (fun K' hK => ?_)
      have HKk := Lib.hid hK
      clear hK
      go_simp
      go_at_call 91
      refine HC.out.mono ?_; rintro e' w5 ⟨rfl, hb5⟩
      have HF5 := Lib.hid (HF.out w5 hb5 (.int .i64 (min (n * a0) 16385)) rfl)
      exact HKk.out _ _ ⟨_, _, _, _, _, _, _, _, _, _, _, _, _, _, _, _, _, _, _, _, _, rfl, Or.inl ⟨HNm.out, HF5.out⟩⟩
    | 5, _, h0, hall =>
      have hno : ¬ On l 21 := fun z => off_of h0 (hcl 21 (z) 5 (by decide +kernel))
      obtain ⟨hnm, F⟩ := hF.resolve_right (fun z => hno z.1)
      have HNm : Hid (¬ On (l.setIfInBounds 5 true) 21) := fun z => hnm (((on_set h0 21).1 z).resolve_left (by decide))
      clear hF hnm hno
      have HF := Lib.hid (F.step FT.mono h0 (show 5 < 21 by decide) (Below.refl _ _) (x := .int .i64 n) rfl)
      clear F hall h0 hcl
      refine wpOp_step (by rfl) (fun K' hK => ?_)
      have HKk := Lib.hid hK
      clear hK
      go_simp
      exact HKk.out _ _ ⟨_, _, _, _, _, _, _, _, _, _, _, _, _, _, _, _, _, _, _, _, _, rfl, Or.inl ⟨HNm.out, HF.out⟩⟩
    | 6, _, h0, hall =>
      have hno : ¬ On l 21 := fun z => off_of h0 (hcl 21 (z) 6 (by decide +kernel))
      obtain ⟨hnm, F⟩ := hF.resolve_right (fun z => hno z.1)
      have HNm : Hid (¬ On (l.setIfInBounds 6 true) 21) := fun z => hnm (((on_set h0 21).1 z).resolve_left (by decide))
      clear hF hnm hno
      have HF := Lib.hid (F.step FT.mono h0 (show 6 < 21 by decide) (Below.refl _ _) (x := .pointer (some ⟨w.heap.size, 1, none⟩)) rfl)
      clear F hall h0 hcl
      refine wpOp_step (by rfl) (fun K' hK => ?_)
      have HKk := Lib.hid hK
      clear hK
      go_simp
      exact HKk.out _ _ ⟨_, _, _, _, _, _, _, _, _, _, _, _, _, _, _, _, _, _, _, _, _, rfl, Or.inl ⟨HNm.out, HF.out⟩⟩
    | 7, _, h0, hall =>
      have hno : ¬ On l 21 := fun z => off_of h0 (hcl 21 (z) 7 (by decide +kernel))
      obtain ⟨hnm, F⟩ := hF.resolve_right (fun z => hno z.1)
      have HNm : Hid (¬ On (l.setIfInBounds 7 true) 21) := fun z => hnm (((on_set h0 21).1 z).resolve_left (by decide))
      clear hF hnm hno
      obtain rfl : v6 = .pointer (some ⟨w.heap.size, 1, none⟩) := F.f 6 (hall 6 (by decide +kernel))
      have q1 := (HX1.out.below F.bel).cell 1
      simp only [List.getElem?_toArray, List.getElem?_cons_zero, List.getElem?_cons_succ] at q1
      have HF := Lib.hid (F.step FT.mono h0 (show 7 < 21 by decide) (Below.refl _ _) (x := .int .i64 a1) rfl)
      clear F hall h0 hcl
      refine wpOp_step (by rfl) (fun K' hK => ?_)
      have HKk := Lib.hid hK
      clear hK
      go_simp
      exact HKk.out _ _ ⟨_, _, _, _, _, _, _, _, _, _, _, _, _, _, _, _, _, _, _, _, _, rfl, Or.inl ⟨HNm.out, HF.out⟩⟩
    | 8, _, h0, hall =>
      have hno : ¬ On l 21 := fun z => off_of h0 (hcl 21 (z) 8 (by decide +kernel))
      obtain ⟨hnm, F⟩ := hF.resolve_right (fun z => hno z.1)
      have HNm : Hid (¬ On (l.setIfInBounds 8 true) 21) := fun z => hnm (((on_set h0 21).1 z).resolve_left (by decide))
      clear hF hnm hno
      obtain rfl : v5 = .int .i64 n := F.f 5 (hall 5 (by decide +kernel))
      obtain rfl : v7 = .int .i64 a1 := F.f 7 (hall 7 (by decide +kernel))
      have hw := HS1.out
      have HF := Lib.hid (F.step FT.mono h0 (show 8 < 21 by decide) (Below.refl _ _) (x := .int .i64 (n * a1)) rfl)
      clear F hall h0 hcl
      refine wpOp_step (by rfl) (fun K' hK => ?_)
      have HKk := Lib.hid hK
      clear hK
      go_simp
      exact HKk.out _ _ ⟨_, _, _, _, _, _, _, _, _, _, _, _, _, _, _, _, _, _, _, _, _, rfl, Or.inl ⟨HNm.out, HF.out⟩⟩
    | 9, _, h0, hall =>
      have hno : ¬ On l 21 := fun z => off_of h0 (hcl 21 (z) 9 (by decide +kernel))
      obtain ⟨hnm, F⟩ := hF.resolve_right (fun z => hno z.1)
      have HNm : Hid (¬ On (l.setIfInBounds 9 true) 21) := fun z => hnm (((on_set h0 21).1 z).resolve_left (by decide))
      clear hF hnm hno
      obtain rfl : v8 = .int .i64 (n * a1) := F.f 8 (hall 8 (by decide +kernel))
      have HC := Lib.hid (HC.out (n * a1) w')
      have HF := Lib.hid (fun w'' hb x hx => F.step FT.mono h0 (show 9 < 21 by decide) (w' := w'') hb (x := x) hx)
      clear F hall h0 hcl
      refine wpOp_step (by rfl) (fun K' hK => ?_)
      have HKk := Lib.hid hK
      clear hK
      go_simp
      go_at_call 91
      refine HC.out.mono ?_; rintro e' w5 ⟨rfl, hb5⟩
      have HF5 := Lib.hid (HF.out w5 hb5 (.int .i64 (min (n * a1) 16385)) rfl)
      exact HKk.out _ _ ⟨_, _, _, _, _, _, _, _, _, _, _, _, _, _, _, _, _, _, _, _, _, rfl, Or.inl ⟨HNm.out, HF5.out⟩⟩
    | 10, _, h0, hall =>
      have hno : ¬ On l 21 := fun z => off_of h0 (hcl 21 (z) 10 (by decide +kernel))
      obtain ⟨hnm, F⟩ := hF.resolve_right (fun z => hno z.1)
      have HNm : Hid (¬ On (l.setIfInBounds 10 true) 21) := fun z => hnm (((on_set h0 21).1 z).resolve_left (by decide))
      clear hF hnm hno
      have HF := Lib.hid (F.step FT.mono h0 (show 10 < 21 by decide) (Below.refl _ _) (x := .int .i64 n) rfl)
      clear F hall h0 hcl
      refine wpOp_step (by rfl) (fun K' hK => ?_)
      have HKk := Lib.hid hK
      clear hK
      go_simp
      exact HKk.out _ _ ⟨_, _, _, _, _, _, _, _, _, _, _, _, _, _, _, _, _, _, _, _, _, rfl, Or.inl ⟨HNm.out, HF.out⟩⟩
    | 11, _, h0, hall =>
      have hno : ¬ On l 21 := fun z => off_of h0 (hcl 21 (z) 11 (by decide +kernel))
      obtain ⟨hnm, F⟩ := hF.resolve_right (fun z => hno z.1)
      have HNm : Hid (¬ On (l.setIfInBounds 11 true) 21) := fun z => hnm (((on_set h0 21).1 z).resolve_left (by decide))
      clear hF hnm hno
      have HF := Lib.hid (F.step FT.mono h0 (show 11 < 21 by decide) (Below.refl _ _) (x := .pointer (some ⟨w.heap.size, 2, none⟩)) rfl)
      clear F hall h0 hcl
      refine wpOp_step (by rfl) (fun K' hK => ?_)
      have HKk := Lib.hid hK
      clear hK
      go_simp
      exact HKk.out _ _ ⟨_, _, _, _, _, _, _, _, _, _, _, _, _, _, _, _, _, _, _, _, _, rfl, Or.inl ⟨HNm.out, HF.out⟩⟩
    | 12, _, h0, hall =>
      have hno : ¬ On l 21 := fun z => off_of h0 (hcl 21 (z) 12 (by decide +kernel))
      obtain ⟨hnm, F⟩ := hF.resolve_right (fun z => hno z.1)
      have HNm : Hid (¬ On (l.setIfInBounds 12 true) 21) := fun z => hnm (((on_set h0 21).1 z).resolve_left (by decide))
      clear hF hnm hno
      obtain rfl : v11 = .pointer (some ⟨w.heap.size, 2, none⟩) := F.f 11 (hall 11 (by decide +kernel))
      have q2 := (HX1.out.below F.bel).cell 2
      simp only [List.getElem?_toArray, List.getElem?_cons_zero, List.getElem?_cons_succ] at q2
      have HF := Lib.hid (F.step FT.mono h0 (show 12 < 21 by decide) (Below.refl _ _) (x := .int .i64 a2) rfl)
      clear F hall h0 hcl
      refine wpOp_step (by rfl) (fun K' hK => ?_)
      have HKk := Lib.hid hK
      clear hK
      go_simp
      exact HKk.out _ _ ⟨_, _, _, _, _, _, _, _, _, _, _, _, _, _, _, _, _, _, _, _, _, rfl, Or.inl ⟨HNm.out, HF.out⟩⟩
    | 13, _, h0, hall =>
      have hno : ¬ On l 21 := fun z => off_of h0 (hcl 21 (z) 13 (by decide +kernel))
      obtain ⟨hnm, F⟩ := hF.resolve_right (fun z => hno z.1)
      have HNm : Hid (¬ On (l.setIfInBounds 13 true) 21) := fun z => hnm (((on_set h0 21).1 z).resolve_left (by decide))
      clear hF hnm hno
      obtain rfl : v10 = .int .i64 n := F.f 10 (hall 10 (by decide +kernel))
      obtain rfl : v12 = .int .i64 a2 := F.f 12 (hall 12 (by decide +kernel))
      have hw := HS2.out
      have HF := Lib.hid (F.step FT.mono h0 (show 13 < 21 by decide) (Below.refl _ _) (x := .int .i64 (n * a2)) rfl)
      clear F hall h0 hcl
      refine wpOp_step (by rfl) (fun K' hK => ?_)
      have HKk := Lib.hid hK
      clear hK
      go_simp
      exact HKk.out _ _ ⟨_, _, _, _, _, _, _, _, _, _, _, _, _, _, _, _, _, _, _, _, _, rfl, Or.inl ⟨HNm.out, HF.out⟩⟩
    | 14, _, h0, hall =>
      have hno : ¬ On l 21 := fun z => off_of h0 (hcl 21 (z) 14 (by decide +kernel))
      obtain ⟨hnm, F⟩ := hF.resolve_right (fun z => hno z.1)
      have HNm : Hid (¬ On (l.setIfInBounds 14 true) 21) := fun z => hnm (((on_set h0 21).1 z).resolve_left (by decide))
      clear hF hnm hno
      obtain rfl : v13 = .int .i64 (n * a2) := F.f 13 (hall 13 (by decide +kernel))
      have HC := Lib.hid (HC.out (n * a2) w')
      have HF := Lib.hid (fun w'' hb x hx => F.step FT.mono h0 (show 14 < 21 by decide) (w' := w'') hb (x := x) hx)
      clear F hall h0 hcl
      refine wpOp_step (by rfl) (fun K' hK => ?_)
      have HKk := Lib.hid hK
      clear hK
      go_simp
      go_at_call 91
      refine HC.out.mono ?_; rintro e' w5 ⟨rfl, hb5⟩
      have HF5 := Lib.hid (HF.out w5 hb5 (.int .i64 (min (n * a2) 16385)) rfl)
      exact HKk.out _ _ ⟨_, _, _, _, _, _, _, _, _, _, _, _, _, _, _, _, _, _, _, _, _, rfl, Or.inl ⟨HNm.out, HF5.out⟩⟩
    | 15, _, h0, hall =>
      have hno : ¬ On l 21 := fun z => off_of h0 (hcl 21 (z) 15 (by decide +kernel))
      obtain ⟨hnm, F⟩ := hF.resolve_right (fun z => hno z.1)
      have HNm : Hid (¬ On (l.setIfInBounds 15 true) 21) := fun z => hnm (((on_set h0 21).1 z).resolve_left (by decide))
      clear hF hnm hno
      have HF := Lib.hid (F.step FT.mono h0 (show 15 < 21 by decide) (Below.refl _ _) (x := .int .i64 n) rfl)
      clear F hall h0 hcl
      refine wpOp_step (by rfl) (fun K' hK => ?_)
      have HKk := Lib.hid hK
      clear hK
      go_simp
      exact HKk.out _ _ ⟨_, _, _, _, _, _, _, _, _, _, _, _, _, _, _, _, _, _, _, _, _, rfl, Or.inl ⟨HNm.out, HF.out⟩⟩
    | 16, _, h0, hall =>
      have hno : ¬ On l 21 := fun z => off_of h0 (hcl 21 (z) 16 (by decide +kernel))
      obtain ⟨hnm, F⟩ := hF.resolve_right (fun z => hno z.1)
      have HNm : Hid (¬ On (l.setIfInBounds 16 true) 21) := fun z => hnm (((on_set h0 21).1 z).resolve_left (by decide))
      clear hF hnm hno
      have HF := Lib.hid (F.step FT.mono h0 (show 16 < 21 by decide) (Below.refl _ _) (x := .pointer (some ⟨w.heap.size, 3, none⟩)) rfl)
      clear F hall h0 hcl
      refine wpOp_step (by rfl) (fun K' hK => ?_)
      have HKk := Lib.hid hK
      clear hK
      go_simp
      exact HKk.out _ _ ⟨_, _, _, _, _, _, _, _, _, _, _, _, _, _, _, _, _, _, _, _, _, rfl, Or.inl ⟨HNm.out, HF.out⟩⟩
    | 17, _, h0, hall =>
      have hno : ¬ On l 21 := fun z => off_of h0 (hcl 21 (z) 17 (by decide +kernel))
      obtain ⟨hnm, F⟩ := hF.resolve_right (fun z => hno z.1)
      have HNm : Hid (¬ On (l.setIfInBounds 17 true) 21) := fun z => hnm (((on_set h0 21).1 z).resolve_left (by decide))
      clear hF hnm hno
      obtain rfl : v16 = .pointer (some ⟨w.heap.size, 3, none⟩) := F.f 16 (hall 16 (by decide +kernel))
      have q3 := (HX1.out.below F.bel).cell 3
      simp only [List.getElem?_toArray, List.getElem?_cons_zero, List.getElem?_cons_succ] at q3
      have HF := Lib.hid (F.step FT.mono h0 (show 17 < 21 by decide) (Below.refl _ _) (x := .int .i64 a3) rfl)
      clear F hall h0 hcl
      refine wpOp_step (by rfl) (fun K' hK => ?_)
      have HKk := Lib.hid hK
      clear hK
      go_simp
      exact HKk.out _ _ ⟨_, _, _, _, _, _, _, _, _, _, _, _, _, _, _, _, _, _, _, _, _, rfl, Or.inl ⟨HNm.out, HF.out⟩⟩
    | 18, _, h0, hall =>
      have hno : ¬ On l 21 := fun z => off_of h0 (hcl 21 (z) 18 (by decide +kernel))
      obtain ⟨hnm, F⟩ := hF.resolve_right (fun z => hno z.1)
      have HNm : Hid (¬ On (l.setIfInBounds 18 true) 21) := fun z => hnm (((on_set h0 21).1 z).resolve_left (by decide))
      clear hF hnm hno
      obtain rfl : v15 = .int .i64 n := F.f 15 (hall 15 (by decide +kernel))
      obtain rfl : v17 = .int .i64 a3 := F.f 17 (hall 17 (by decide +kernel))
      have hw := HS3.out
      have HF := Lib.hid (F.step FT.mono h0 (show 18 < 21 by decide) (Below.refl _ _) (x := .int .i64 (n * a3)) rfl)
      clear F hall h0 hcl
      refine wpOp_step (by rfl) (fun K' hK => ?_)
      have HKk := Lib.hid hK
      clear hK
      go_simp
      exact HKk.out _ _ ⟨_, _, _, _, _, _, _, _, _, _, _, _, _, _, _, _, _, _, _, _, _, rfl, Or.inl ⟨HNm.out, HF.out⟩⟩
    | 19, _, h0, hall =>
      have hno : ¬ On l 21 := fun z => off_of h0 (hcl 21 (z) 19 (by decide +kernel))
      obtain ⟨hnm, F⟩ := hF.resolve_right (fun z => hno z.1)
      have HNm : Hid (¬ On (l.setIfInBounds 19 true) 21) := fun z => hnm (((on_set h0 21).1 z).resolve_left (by decide))
      clear hF hnm hno
      obtain rfl : v18 = .int .i64 (n * a3) := F.f 18 (hall 18 (by decide +kernel))
      have HC := Lib.hid (HC.out (n * a3) w')
      have HF := Lib.hid (fun w'' hb x hx => F.step FT.mono h0 (show 19 < 21 by decide) (w' := w'') hb (x := x) hx)
      clear F hall h0 hcl
      refine wpOp_step (by rfl) (fun K' hK => ?_)
      have HKk := Lib.hid hK
      clear hK
      go_simp
      go_at_call 91
      refine HC.out.mono ?_; rintro e' w5 ⟨rfl, hb5⟩
      have HF5 := Lib.hid (HF.out w5 hb5 (.int .i64 (min (n * a3) 16385)) rfl)
      exact HKk.out _ _ ⟨_, _, _, _, _, _, _, _, _, _, _, _, _, _, _, _, _, _, _, _, _, rfl, Or.inl ⟨HNm.out, HF5.out⟩⟩
    | 20, _, h0, hall =>
      have hno : ¬ On l 21 := fun z => off_of h0 (hcl 21 (z) 20 (by decide +kernel))
      obtain ⟨hnm, F⟩ := hF.resolve_right (fun z => hno z.1)
      have HNm : Hid (¬ On (l.setIfInBounds 20 true) 21) := fun z => hnm (((on_set h0 21).1 z).resolve_left (by decide))
      clear hF hnm hno
      obtain rfl : v4 = .int .i64 (min (n * a0) 16385) := F.f 4 (hall 4 (by decide +kernel))
      obtain rfl : v9 = .int .i64 (min (n * a1) 16385) := F.f 9 (hall 9 (by decide +kernel))
      obtain rfl : v14 = .int .i64 (min (n * a2) 16385) := F.f 14 (hall 14 (by decide +kernel))
      obtain rfl : v19 = .int .i64 (min (n * a3) 16385) := F.f 19 (hall 19 (by decide +kernel))
      have HF := Lib.hid (F.step FT.mono h0 (show 20 < 21 by decide) (Below.refl _ _) (x := .agg #[.int .i64 (min (n * a0) 16385), .int .i64 (min (n * a1) 16385), .int .i64 (min (n * a2) 16385), .int .i64 (min (n * a3) 16385)]) rfl)
      clear F hall h0 hcl
      refine wpOp_step (by rfl) (fun K' hK => ?_)
      have HKk := Lib.hid hK
      clear hK
      go_simp
      exact HKk.out _ _ ⟨_, _, _, _, _, _, _, _, _, _, _, _, _, _, _, _, _, _, _, _, _, rfl, Or.inl ⟨HNm.out, HF.out⟩⟩
    | 21, _, h0, hall =>
      obtain ⟨hnm, F⟩ := hF.resolve_right (fun z => off_of h0 z.1)
      obtain rfl : v20 = .agg #[.int .i64 (min (n * a0) 16385), .int .i64 (min (n * a1) 16385), .int .i64 (min (n * a2) 16385), .int .i64 (min (n * a3) 16385)] := F.f 20 (hall 20 (by decide +kernel))
      have hZZ := HX2.out.below F.bel
      obtain ⟨q0, q1, q2, q3, q4, q5, q6, q7⟩ := four_open (hZZ)
      have HFin : Hid (On (l.setIfInBounds 21 true) 21 ∧ Bx ((((w'.setCell ⟨w.heap.size + 1, 0, none⟩ (.int .i64 (min (n * a0) 16385))).setCell ⟨w.heap.size + 1, 1, none⟩ (.int .i64 (min (n * a1) 16385))).setCell ⟨w.heap.size + 1, 2, none⟩ (.int .i64 (min (n * a2) 16385))).setCell ⟨w.heap.size + 1, 3, none⟩ (.int .i64 (min (n * a3) 16385))) (w.heap.size + 1) #[.int .i64 (min (n * a0) 16385), .int .i64 (min (n * a1) 16385), .int .i64 (min (n * a2) 16385), .int .i64 (min (n * a3) 16385)] 34 ∧ Below w.heap.size w ((((w'.setCell ⟨w.heap.size + 1, 0, none⟩ (.int .i64 (min (n * a0) 16385))).setCell ⟨w.heap.size + 1, 1, none⟩ (.int .i64 (min (n * a1) 16385))).setCell ⟨w.heap.size + 1, 2, none⟩ (.int .i64 (min (n * a2) 16385))).setCell ⟨w.heap.size + 1, 3, none⟩ (.int .i64 (min (n * a3) 16385)))) := ⟨(on_set h0 21).2 (Or.inl rfl), four_set hZZ _ _ _ _, four_below (below_2 HB.out F.bel) (Nat.le_add_right _ 1) _ _ _ _⟩
      clear hall h0 hcl F hF hnm
      clear hZZ
      refine wpOp_step (by rfl) (fun K' hK => ?_)
      have HKk := Lib.hid hK
      clear hK
      go_simp
      exact HKk.out _ _ ⟨_, _, _, _, _, _, _, _, _, _, _, _, _, _, _, _, _, _, _, _, _, rfl, Or.inr HFin.out⟩
    | i + 22, hi, _, _ => exact absurd hi (by show ¬ (i + 22 < 22); omega)
  rintro l9 a wz ⟨r0, r1, r2, r3, r4, r5, r6, r7, r8, r9, r10, r11, r12, r13, r14, r15, r16, r17, r18, r19, r20, rfl, hF⟩ hall
  obtain ⟨_, hz, hbel⟩ := hF.resolve_left (fun z => z.1 (hall 21 (by decide)))
  clear hF hall
  have q0 := hz.cell 0
  have q1 := hz.cell 1
  have q2 := hz.cell 2
  have q3 := hz.cell 3
  simp only [List.getElem?_toArray, List.getElem?_cons_zero, List.getElem?_cons_succ] at q0 q1 q2 q3
  clear hz
  go_wp2_with fail
  refine bodyPost_ret (v := .agg #[.int .i64 (min (n * a0) 16385), .int .i64 (min (n * a1) 16385), .int .i64 (min (n * a2) 16385), .int .i64 (min (n * a3) 16385)]) (by simp [results, Tryz.results60, go_sem, q0, q1, q2, q3]) rfl ?_
  exact ⟨rfl, hbel⟩
set_option maxHeartbeats 8000000 in
set_option maxRecDepth 100000 in
theorem rgreater_core (a0 a1 a2 a3 b0 b1 b2 b3 : Int) (w : World) : Calls Tryz.prog 59 #[.agg #[.int .i64 a0, .int .i64 a1, .int .i64 a2, .int .i64 a3], .agg #[.int .i64 b0, .int .i64 b1, .int .i64 b2, .int .i64 b3]] w fun e w' => e = .returned (.agg #[.int .i64 (max a0 b0), .int .i64 (max a1 b1), .int .i64 (max a2 b2), .int .i64 (max a3 b3)]) ∧ Below w.heap.size w w' := by
  obtain ⟨z1, e1⟩ : ∃ z, z = w.alloc (.cells #[.int .i64 a0, .int .i64 a1, .int .i64 a2, .int .i64 a3] 34) := ⟨_, rfl⟩
  have bb1 : Below w.heap.size w z1 := by rw [e1]; exact below_box _ _
  have xx1 := Bx.new w #[.int .i64 a0, .int .i64 a1, .int .i64 a2, .int .i64 a3] 34
  rw [← e1] at xx1
  have s1 : z1.heap.size = w.heap.size + 1 := by rw [e1]; simp
  obtain ⟨z2, e2⟩ : ∃ z, z = z1.alloc (.cells #[.int .i64 b0, .int .i64 b1, .int .i64 b2, .int .i64 b3] 34) := ⟨_, rfl⟩
  have bb2 : Below z1.heap.size z1 z2 := by rw [e2]; exact below_box _ _
  have xx2 := Bx.new z1 #[.int .i64 b0, .int .i64 b1, .int .i64 b2, .int .i64 b3] 34
  rw [← e2] at xx2
  rw [s1] at xx2
  have s2 : z2.heap.size = w.heap.size + 1 + 1 := by rw [e2]; simp [s1]
  obtain ⟨z3, e3⟩ : ∃ z, z = z2.alloc (.cells #[.int .i64 0, .int .i64 0, .int .i64 0, .int .i64 0] 34) := ⟨_, rfl⟩
  have bb3 : Below z2.heap.size z2 z3 := by rw [e3]; exact below_box _ _
  have xx3 := Bx.new z2 #[.int .i64 0, .int .i64 0, .int .i64 0, .int .i64 0] 34
  rw [← e3] at xx3
  rw [s2] at xx3
  have HB := Lib.hid (below_2 (below_2 bb1 bb2) bb3)
  have HX1 := Lib.hid ((xx1.below bb2).below bb3)
  have HX2 := Lib.hid (xx2.below bb3)
  have HX3 := Lib.hid xx3
  have HW : Hid ((((w.alloc (.cells #[.int .i64 a0, .int .i64 a1, .int .i64 a2, .int .i64 a3] 34)).alloc (.cells #[.int .i64 b0, .int .i64 b1, .int .i64 b2, .int .i64 b3] 34)).alloc (.cells #[.int .i64 0, .int .i64 0, .int .i64 0, .int .i64 0] 34)) = z3) := by show _ = _; rw [← e1, ← e2, ← e3]
  clear e1 bb1 xx1 s1 e2 bb2 xx2 s2 e3 bb3 xx3
  go_enter Tryz.func59, Tryz.ntmps59
  go_upto_region 1 with fail
  rw [HW.out]
  obtain ⟨c0, c1, c2, c3, c4, c5, c6, c7⟩ := four_open HX1.out
  obtain ⟨d0, d1, d2, d3, d4, d5, d6, d7⟩ := four_open HX2.out
  obtain ⟨g0, g1, g2, g3, g4, g5, g6, g7⟩ := four_open HX3.out
  have hz := four_set HX3.out (.int .i64 (max a0 b0)) (.int .i64 (max a1 b1)) (.int .i64 (max a2 b2)) (.int .i64 (max a3 b3))
  have q0 := hz.cell 0
  have q1 := hz.cell 1
  have q2 := hz.cell 2
  have q3 := hz.cell 3
  simp only [List.getElem?_toArray, List.getElem?_cons_zero, List.getElem?_cons_succ] at q0 q1 q2 q3
  clear hz
  go_wp2_with fail
  refine bodyPost_ret (v := .agg #[.int .i64 (max a0 b0), .int .i64 (max a1 b1), .int .i64 (max a2 b2), .int .i64 (max a3 b3)]) (by simp [results, Tryz.results59, go_sem, q0, q1, q2, q3]) rfl ?_
  exact ⟨rfl, four_below HB.out (Nat.le_add_right _ 2) _ _ _ _⟩
theorem rplus_any (a b : Ct) (ha : Bd 1000000 a) (hb : Bd 1000000 b) (w : World) : Calls Tryz.prog 58 #[ctV a, ctV b] w fun e w' => e = .returned (ctV (a.add b).cut) ∧ Below w.heap.size w w' := by
  obtain ⟨h1, h2, h3, h4⟩ := ha
  obtain ⟨k1, k2, k3, k4⟩ := hb
  refine (rplus_core a.s a.g a.u a.m b.s b.g b.u b.m (by omega) (by omega) (by omega) (by omega) (by omega) (by omega) (by omega) (by omega) w).mono fun e w' h => ⟨h.1.trans (agg4 ?_ ?_ ?_ ?_), h.2⟩ <;> (simp only [Ct.cut, Ct.add]; omega)
theorem rtimes_any (a : Ct) (n : Nat) (ha : Bd 1000000 a) (hn : n ≤ 1000000) (w : World) : Calls Tryz.prog 60 #[.int .i64 (n : Int), ctV a] w fun e w' => e = .returned (ctV (Ct.mul n a).cut) ∧ Below w.heap.size w w' := by
  obtain ⟨h1, h2, h3, h4⟩ := ha
  refine (rtimes_core n a.s a.g a.u a.m (by rw [Int.mul_comm]; exact mul_bd h1 hn) (by rw [Int.mul_comm]; exact mul_bd h2 hn) (by rw [Int.mul_comm]; exact mul_bd h3 hn) (by rw [Int.mul_comm]; exact mul_bd h4 hn) w).mono fun e w' h => ⟨h.1.trans (agg4 ?_ ?_ ?_ ?_), h.2⟩ <;> (rw [Int.mul_comm]; simp only [Ct.cut, Ct.mul, ← Int.natCast_mul]; omega)
theorem rgreater_any (a b : Ct) (w : World) : Calls Tryz.prog 59 #[ctV a, ctV b] w fun e w' => e = .returned (ctV (a.mx b)) ∧ Below w.heap.size w w' := by
  refine (rgreater_core a.s a.g a.u a.m b.s b.g b.u b.m w).mono fun e w' h => ⟨h.1.trans (agg4 ?_ ?_ ?_ ?_), h.2⟩ <;> (simp only [Ct.mx]; omega)
end Go.Proofs.YtkjefigebdbkaaaGreatDoor.Q
namespace Go.Proofs.YtkjefigebdbkaaaGreatDoor.Q
open Go.RowKit
open A (Ex St Bx exV okE okB okS cE cB cS stC Bodies)
open L (below_2 below_box ret_bool ret_int)
open P (On on_set off_of wp_region_inv2 IS FT deps Closed)

set_option maxHeartbeats 8000000 in
set_option maxRecDepth 100000 in
theorem rown_any (s : St) (a1 : Option Addr) (c1 : Nat) (a2 : Option Addr) (c2 : Nat) (a3 : Option Addr) (c3 : Nat) (a4 : Option Addr) (c4 : Nat) (hok : okS s) (hsz : cS s ≤ 16000) (w : World) (hK : A.StKids w s a1 a2 a3 a4) :
    Calls Tryz.prog 57 #[stC s a1 c1 a2 c2 a3 c3 a4 c4] w fun e' w' => e' = .returned (ctV (ownC s.op s.a s.b)) ∧ Below w.heap.size w w' := by
  have hso := A.okS_open hok
  have hcp := A.cS_parts s
  have hga := gE_cE s.a
  have hgb := gE_cE s.b
  obtain ⟨W1, e1⟩ : ∃ z, z = w.alloc (.cells #[.int .i64 s.op, .string s.name, .int .i64 s.mx, .int .i64 s.a.op, .int .i64 s.a.n, .string s.a.s, .slice a1 s.a.args.length c1, .int .i64 s.b.op, .int .i64 s.b.n, .string s.b.s, .slice a2 s.b.args.length c2, .slice a3 s.body.length c3, .slice a4 s.els.length c4] 49) := ⟨_, rfl⟩
  have bb1 : Below w.heap.size w W1 := by rw [e1]; exact below_box _ _
  have xx1 := Bx.new w #[.int .i64 s.op, .string s.name, .int .i64 s.mx, .int .i64 s.a.op, .int .i64 s.a.n, .string s.a.s, .slice a1 s.a.args.length c1, .int .i64 s.b.op, .int .i64 s.b.n, .string s.b.s, .slice a2 s.b.args.length c2, .slice a3 s.body.length c3, .slice a4 s.els.length c4] 49
  rw [← e1] at xx1
  have s1 : W1.heap.size = w.heap.size + 1 := by rw [e1]; simp
  obtain ⟨W2, e2⟩ : ∃ z, z = W1.alloc (.cells #[.int .i64 0, .int .i64 0, .int .i64 0, .int .i64 0] 34) := ⟨_, rfl⟩
  have bb2 : Below W1.heap.size W1 W2 := by rw [e2]; exact below_box _ _
  have xx2 := Bx.new W1 #[.int .i64 0, .int .i64 0, .int .i64 0, .int .i64 0] 34
  rw [← e2] at xx2
  rw [s1] at xx2
  have HB := Lib.hid (below_2 bb1 bb2)
  have HX := Lib.hid (xx1.below bb2)
  have HZ := Lib.hid xx2
  have HK := Lib.hid (hK.below (below_2 bb1 bb2))
  have HW : Hid ((w.alloc (.cells #[.int .i64 s.op, .string s.name, .int .i64 s.mx, .int .i64 s.a.op, .int .i64 s.a.n, .string s.a.s, .slice a1 s.a.args.length c1, .int .i64 s.b.op, .int .i64 s.b.n, .string s.b.s, .slice a2 s.b.args.length c2, .slice a3 s.body.length c3, .slice a4 s.els.length c4] 49)).alloc (.cells #[.int .i64 0, .int .i64 0, .int .i64 0, .int .i64 0] 34) = W2) := by show _ = _; rw [← e1, ← e2]
  have HGA : Hid (∀ w', Below W2.heap.size W2 w' → Calls Tryz.prog 92 #[exV s.a a1 c1] w' fun e w'' => e = .returned (.int .i64 (gE s.a : Int)) ∧ Below w'.heap.size w' w'') := fun w' hb => rgets_any s.a a1 c1 w' hso.a (by omega) (HK.out.below hb).a
  have HGB : Hid (∀ w', Below W2.heap.size W2 w' → Calls Tryz.prog 92 #[exV s.b a2 c2] w' fun e w'' => e = .returned (.int .i64 (gE s.b : Int)) ∧ Below w'.heap.size w' w'') := fun w' hb => rgets_any s.b a2 c2 w' hso.b (by omega) (HK.out.below hb).b
  have hgab : gE s.a + gE s.b ≤ 16000 := by omega
  obtain ⟨R, hR⟩ : ∃ R, ownC s.op s.a s.b = R := ⟨_, rfl⟩
  have hR1 := hR
  unfold ownC at hR1
  rw [hR]
  have HR := Lib.hid hR1
  have HHS : Hid (W2.heap.size = w.heap.size + 1 + 1) := by show _ = _; rw [e2]; simp [s1]
  clear e1 e2 bb1 bb2 xx1 xx2 s1 hK hok hsz hso hcp hga hgb hR hR1
  unfold exV at HGA HGB
  unfold stC
  generalize gE s.a = ga at *
  generalize gE s.b = gb at *
  obtain ⟨g, hg⟩ : ∃ g, ga + gb = g := ⟨_, rfl⟩
  rw [hg] at HR hgab
  have hsum : (ga : Int) + (gb : Int) = (g : Int) := by omega
  have hw0 : IntKind.i64.wrap (g : Int) = (g : Int) := IntWalk.i64_in _ (by omega)
  have HSum := Lib.hid hsum
  have HW0 := Lib.hid hw0
  have HCu : Hid (∀ w', Calls Tryz.prog 91 #[.int .i64 (g : Int)] w' fun e w'' => e = .returned (.int .i64 (g : Int)) ∧ Below w'.heap.size w' w'') := fun w' => (rcut_in g (by omega) w').mono fun e w'' h => ⟨h.1, h.2 ▸ Below.refl _ _⟩
  clear hg hsum hw0
  go_enter Tryz.func57, Tryz.ntmps57
  go_wp2_with fail
  rw [HW.out]
  go_upto_region 1 with fail
  refine wp_region_inv2 rfl (fun l a w' => ∃ v0 v1 v2 v3 v4 v5 v6 v7 v8 v9 : Value, a = { tmps := #[Value.agg #[.int .i64 s.op, .string s.name, .int .i64 s.mx, .int .i64 s.a.op, .int .i64 s.a.n, .string s.a.s, .slice a1 s.a.args.length c1, .int .i64 s.b.op, .int .i64 s.b.n, .string s.b.s, .slice a2 s.b.args.length c2, .slice a3 s.body.length c3, .slice a4 s.els.length c4], Value.pointer (some { block := w.heap.size, off := 0 }), Value.pointer (some { block := w.heap.size + 1, off := 0 }), v9, v0, v1, v2, v3, v4, v5, v6, v7, v8, undef, undef, undef, undef, undef, undef, undef, undef, undef, undef, undef, undef, undef, undef], defers := [] } ∧ ((¬ On l 10 ∧ IS (FT [some (.pointer (some ⟨w.heap.size, 3, none⟩)), some (.agg #[.int .i64 s.a.op, .int .i64 s.a.n, .string s.a.s, .slice a1 s.a.args.length c1]), some (.int .i64 (ga : Int)), some (.pointer (some ⟨w.heap.size, 7, none⟩)), some (.agg #[.int .i64 s.b.op, .int .i64 s.b.n, .string s.b.s, .slice a2 s.b.args.length c2]), some (.int .i64 (gb : Int)), some (.int .i64 (g : Int)), some (.int .i64 (g : Int)), some (.agg #[.int .i64 1, .int .i64 (g : Int), .int .i64 0, .int .i64 0]), none] 34 #[.int .i64 0, .int .i64 0, .int .i64 0, .int .i64 0] (W2.heap.size)) W2 l w' [v0, v1, v2, v3, v4, v5, v6, v7, v8, v9]) ∨ (On l 10 ∧ ∃ d, v9 = .pointer (some ⟨d, 0, none⟩) ∧ W2.heap.size ≤ d ∧ Bx w' d #[.int .i64 1, .int .i64 (g : Int), .int .i64 0, .int .i64 0] 34 ∧ Below W2.heap.size W2 w'))) (by kernel_rfl) ?_ ?_ ?_
  · intro l hl
    exact ⟨_, _, _, _, _, _, _, _, _, _, rfl, Or.inl ⟨hl 10, IS.start _ _ hl _⟩⟩
  · rintro l a w' ⟨v0, v1, v2, v3, v4, v5, v6, v7, v8, v9, rfl, hF⟩ hcl i hi h0 hall
    match i, hi, h0, hall with
    | 0, _, h0, hall =>
      have hno : ¬ On l 10 := fun z => off_of h0 (hcl 10 (z) 0 (by decide +kernel))
      obtain ⟨hnm, F⟩ := hF.resolve_right (fun z => hno z.1)
      have HNm : Hid (¬ On (l.setIfInBounds 0 true) 10) := fun z => hnm (((on_set h0 10).1 z).resolve_left (by decide))
      clear hF hnm hno
      have HF := Lib.hid (F.step FT.mono h0 (show 0 < 10 by decide) (Below.refl _ _) (x := .pointer (some ⟨w.heap.size, 3, none⟩)) rfl)
      clear F hall h0 hcl
      refine wpOp_step (by rfl) (fun K' hK => ?_)
      have HKk := Lib.hid hK
      clear hK
      go_simp
      exact HKk.out _ _ ⟨_, _, _, _, _, _, _, _, _, _, rfl, Or.inl ⟨HNm.out, HF.out⟩⟩
    | 1, _, h0, hall =>
      have hno : ¬ On l 10 := fun z => off_of h0 (hcl 10 (z) 1 (by decide +kernel))
      obtain ⟨hnm, F⟩ := hF.resolve_right (fun z => hno z.1)
      have HNm : Hid (¬ On (l.setIfInBounds 1 true) 10) := fun z => hnm (((on_set h0 10).1 z).resolve_left (by decide))
      clear hF hnm hno
      obtain rfl : v0 = .pointer (some ⟨w.heap.size, 3, none⟩) := F.f 0 (hall 0 (by decide +kernel))
      have hxx := HX.out.below F.bel
      have q3 := hxx.cell 3
      have q4 := hxx.cell 4
      have q5 := hxx.cell 5
      have q6 := hxx.cell 6
      simp only [List.getElem?_toArray, List.getElem?_cons_zero, List.getElem?_cons_succ] at q3 q4 q5 q6
      clear hxx
      have HF := Lib.hid (F.step FT.mono h0 (show 1 < 10 by decide) (Below.refl _ _) (x := .agg #[.int .i64 s.a.op, .int .i64 s.a.n, .string s.a.s, .slice a1 s.a.args.length c1]) rfl)
      clear F hall h0 hcl
      refine wpOp_step (by rfl) (fun K' hK => ?_)
      have HKk := Lib.hid hK
      clear hK
      go_simp
      exact HKk.out _ _ ⟨_, _, _, _, _, _, _, _, _, _, rfl, Or.inl ⟨HNm.out, HF.out⟩⟩
    | 2, _, h0, hall =>
      have hno : ¬ On l 10 := fun z => off_of h0 (hcl 10 (z) 2 (by decide +kernel))
      obtain ⟨hnm, F⟩ := hF.resolve_right (fun z => hno z.1)
      have HNm : Hid (¬ On (l.setIfInBounds 2 true) 10) := fun z => hnm (((on_set h0 10).1 z).resolve_left (by decide))
      clear hF hnm hno
      obtain rfl : v1 = .agg #[.int .i64 s.a.op, .int .i64 s.a.n, .string s.a.s, .slice a1 s.a.args.length c1] := F.f 1 (hall 1 (by decide +kernel))
      have HC := Lib.hid (HGA.out w' F.bel)
      have HF := Lib.hid (fun w'' hb x hx => F.step FT.mono h0 (show 2 < 10 by decide) (w' := w'') hb (x := x) hx)
      clear F hall h0 hcl
      refine wpOp_step (by rfl) (fun K' hK => ?_)
      have HKk := Lib.hid hK
      clear hK
      go_simp
      go_at_call 92
      refine HC.out.mono ?_; rintro e' w5 ⟨rfl, hb5⟩
      have HF5 := Lib.hid (HF.out w5 hb5 (.int .i64 (ga : Int)) rfl)
      exact HKk.out _ _ ⟨_, _, _, _, _, _, _, _, _, _, rfl, Or.inl ⟨HNm.out, HF5.out⟩⟩
    | 3, _, h0, hall =>
      have hno : ¬ On l 10 := fun z => off_of h0 (hcl 10 (z) 3 (by decide +kernel))
      obtain ⟨hnm, F⟩ := hF.resolve_right (fun z => hno z.1)
      have HNm : Hid (¬ On (l.setIfInBounds 3 true) 10) := fun z => hnm (((on_set h0 10).1 z).resolve_left (by decide))
      clear hF hnm hno
      have HF := Lib.hid (F.step FT.mono h0 (show 3 < 10 by decide) (Below.refl _ _) (x := .pointer (some ⟨w.heap.size, 7, none⟩)) rfl)
      clear F hall h0 hcl
      refine wpOp_step (by rfl) (fun K' hK => ?_)
      have HKk := Lib.hid hK
      clear hK
      go_simp
      exact HKk.out _ _ ⟨_, _, _, _, _, _, _, _, _, _, rfl, Or.inl ⟨HNm.out, HF.out⟩⟩
    | 4, _, h0, hall =>
      have hno : ¬ On l 10 := fun z => off_of h0 (hcl 10 (z) 4 (by decide +kernel))
      obtain ⟨hnm, F⟩ := hF.resolve_right (fun z => hno z.1)
      have HNm : Hid (¬ On (l.setIfInBounds 4 true) 10) := fun z => hnm (((on_set h0 10).1 z).resolve_left (by decide))
      clear hF hnm hno
      obtain rfl : v3 = .pointer (some ⟨w.heap.size, 7, none⟩) := F.f 3 (hall 3 (by decide +kernel))
      have hxx := HX.out.below F.bel
      have q7 := hxx.cell 7
      have q8 := hxx.cell 8
      have q9 := hxx.cell 9
      have q10 := hxx.cell 10
      simp only [List.getElem?_toArray, List.getElem?_cons_zero, List.getElem?_cons_succ] at q7 q8 q9 q10
      clear hxx
      have HF := Lib.hid (F.step FT.mono h0 (show 4 < 10 by decide) (Below.refl _ _) (x := .agg #[.int .i64 s.b.op, .int .i64 s.b.n, .string s.b.s, .slice a2 s.b.args.length c2]) rfl)
      clear F hall h0 hcl
      refine wpOp_step (by rfl) (fun K' hK => ?_)
      have HKk := Lib.hid hK
      clear hK
      go_simp
      exact HKk.out _ _ ⟨_, _, _, _, _, _, _, _, _, _, rfl, Or.inl ⟨HNm.out, HF.out⟩⟩
    | 5, _, h0, hall =>
      have hno : ¬ On l 10 := fun z => off_of h0 (hcl 10 (z) 5 (by decide +kernel))
      obtain ⟨hnm, F⟩ := hF.resolve_right (fun z => hno z.1)
      have HNm : Hid (¬ On (l.setIfInBounds 5 true) 10) := fun z => hnm (((on_set h0 10).1 z).resolve_left (by decide))
      clear hF hnm hno
      obtain rfl : v4 = .agg #[.int .i64 s.b.op, .int .i64 s.b.n, .string s.b.s, .slice a2 s.b.args.length c2] := F.f 4 (hall 4 (by decide +kernel))
      have HC := Lib.hid (HGB.out w' F.bel)
      have HF := Lib.hid (fun w'' hb x hx => F.step FT.mono h0 (show 5 < 10 by decide) (w' := w'') hb (x := x) hx)
      clear F hall h0 hcl
      refine wpOp_step (by rfl) (fun K' hK => ?_)
      have HKk := Lib.hid hK
      clear hK
      go_simp
      go_at_call 92
      refine HC.out.mono ?_; rintro e' w5 ⟨rfl, hb5⟩
      have HF5 := Lib.hid (HF.out w5 hb5 (.int .i64 (gb : Int)) rfl)
      exact HKk.out _ _ ⟨_, _, _, _, _, _, _, _, _, _, rfl, Or.inl ⟨HNm.out, HF5.out⟩⟩
    | 6, _, h0, hall =>
      have hno : ¬ On l 10 := fun z => off_of h0 (hcl 10 (z) 6 (by decide +kernel))
      obtain ⟨hnm, F⟩ := hF.resolve_right (fun z => hno z.1)
      have HNm : Hid (¬ On (l.setIfInBounds 6 true) 10) := fun z => hnm (((on_set h0 10).1 z).resolve_left (by decide))
      clear hF hnm hno
      obtain rfl : v2 = .int .i64 (ga : Int) := F.f 2 (hall 2 (by decide +kernel))
      obtain rfl : v5 = .int .i64 (gb : Int) := F.f 5 (hall 5 (by decide +kernel))
      have hsum := HSum.out
      have hw0 := HW0.out
      have HF := Lib.hid (F.step FT.mono h0 (show 6 < 10 by decide) (Below.refl _ _) (x := .int .i64 (g : Int)) rfl)
      clear F hall h0 hcl
      refine wpOp_step (by rfl) (fun K' hK => ?_)
      have HKk := Lib.hid hK
      clear hK
      go_simp
      exact HKk.out _ _ ⟨_, _, _, _, _, _, _, _, _, _, rfl, Or.inl ⟨HNm.out, HF.out⟩⟩
    | 7, _, h0, hall =>
      have hno : ¬ On l 10 := fun z => off_of h0 (hcl 10 (z) 7 (by decide +kernel))
      obtain ⟨hnm, F⟩ := hF.resolve_right (fun z => hno z.1)
      have HNm : Hid (¬ On (l.setIfInBounds 7 true) 10) := fun z => hnm (((on_set h0 10).1 z).resolve_left (by decide))
      clear hF hnm hno
      obtain rfl : v6 = .int .i64 (g : Int) := F.f 6 (hall 6 (by decide +kernel))
      have HC := Lib.hid (HCu.out w')
      have HF := Lib.hid (fun w'' hb x hx => F.step FT.mono h0 (show 7 < 10 by decide) (w' := w'') hb (x := x) hx)
      clear F hall h0 hcl
      refine wpOp_step (by rfl) (fun K' hK => ?_)
      have HKk := Lib.hid hK
      clear hK
      go_simp
      go_at_call 91
      refine HC.out.mono ?_; rintro e' w5 ⟨rfl, hb5⟩
      have HF5 := Lib.hid (HF.out w5 hb5 (.int .i64 (g : Int)) rfl)
      exact HKk.out _ _ ⟨_, _, _, _, _, _, _, _, _, _, rfl, Or.inl ⟨HNm.out, HF5.out⟩⟩
    | 8, _, h0, hall =>
      have hno : ¬ On l 10 := fun z => off_of h0 (hcl 10 (z) 8 (by decide +kernel))
      obtain ⟨hnm, F⟩ := hF.resolve_right (fun z => hno z.1)
      have HNm : Hid (¬ On (l.setIfInBounds 8 true) 10) := fun z => hnm (((on_set h0 10).1 z).resolve_left (by decide))
      clear hF hnm hno
      obtain rfl : v7 = .int .i64 (g : Int) := F.f 7 (hall 7 (by decide +kernel))
      have HF := Lib.hid (F.step FT.mono h0 (show 8 < 10 by decide) (Below.refl _ _) (x := .agg #[.int .i64 1, .int .i64 (g : Int), .int .i64 0, .int .i64 0]) rfl)
      clear F hall h0 hcl
      refine wpOp_step (by rfl) (fun K' hK => ?_)
      have HKk := Lib.hid hK
      clear hK
      go_simp
      exact HKk.out _ _ ⟨_, _, _, _, _, _, _, _, _, _, rfl, Or.inl ⟨HNm.out, HF.out⟩⟩
    | 9, _, h0, hall =>
      have hno : ¬ On l 10 := fun z => off_of h0 (hcl 10 (z) 9 (by decide +kernel))
      obtain ⟨hnm, F⟩ := hF.resolve_right (fun z => hno z.1)
      have HNm : Hid (¬ On (l.setIfInBounds 9 true) 10) := fun z => hnm (((on_set h0 10).1 z).resolve_left (by decide))
      clear hF hnm hno
      have HF := Lib.hid (F.step FT.mono h0 (show 9 < 10 by decide) (w' := w'.alloc (.cells #[.int .i64 0, .int .i64 0, .int .i64 0, .int .i64 0] 34)) (below_box _ _) (x := .pointer (some ⟨w'.heap.size, 0, none⟩)) (show ∃ b, _ ∧ W2.heap.size ≤ b ∧ Bx _ b _ _ from ⟨_, rfl, F.bel.size, Bx.new _ _ _⟩))
      clear F hall h0 hcl
      refine wpOp_step (by rfl) (fun K' hK => ?_)
      have HKk := Lib.hid hK
      clear hK
      go_simp
      exact HKk.out _ _ ⟨_, _, _, _, _, _, _, _, _, _, rfl, Or.inl ⟨HNm.out, HF.out⟩⟩
    | 10, _, h0, hall =>
      obtain ⟨hnm, F⟩ := hF.resolve_right (fun z => off_of h0 z.1)
      obtain rfl : v8 = .agg #[.int .i64 1, .int .i64 (g : Int), .int .i64 0, .int .i64 0] := F.f 8 (hall 8 (by decide +kernel))
      obtain ⟨bA, rfl, hbA, hxA⟩ : ∃ b, v9 = .pointer (some ⟨b, 0, none⟩) ∧ W2.heap.size ≤ b ∧ Bx w' b #[.int .i64 0, .int .i64 0, .int .i64 0, .int .i64 0] 34 := F.f 9 (hall 9 (by decide +kernel))
      obtain ⟨q0, q1, q2, q3, q4, q5, q6, q7⟩ := four_open (hxA)
      have HFin : Hid (On (l.setIfInBounds 10 true) 10 ∧ ∃ d, (Value.pointer (some ⟨bA, 0, none⟩)) = .pointer (some ⟨d, 0, none⟩) ∧ W2.heap.size ≤ d ∧ Bx ((((w'.setCell ⟨bA, 0, none⟩ (.int .i64 1)).setCell ⟨bA, 1, none⟩ (.int .i64 (g : Int))).setCell ⟨bA, 2, none⟩ (.int .i64 0)).setCell ⟨bA, 3, none⟩ (.int .i64 0)) d #[.int .i64 1, .int .i64 (g : Int), .int .i64 0, .int .i64 0] 34 ∧ Below W2.heap.size W2 ((((w'.setCell ⟨bA, 0, none⟩ (.int .i64 1)).setCell ⟨bA, 1, none⟩ (.int .i64 (g : Int))).setCell ⟨bA, 2, none⟩ (.int .i64 0)).setCell ⟨bA, 3, none⟩ (.int .i64 0))) := ⟨(on_set h0 10).2 (Or.inl rfl), bA, rfl, hbA, four_set hxA _ _ _ _, four_below F.bel hbA _ _ _ _⟩
      clear hall h0 hcl F hF hnm
      clear hxA hbA
      refine wpOp_step (by rfl) (fun K' hK => ?_)
      have HKk := Lib.hid hK
      clear hK
      go_simp
      exact HKk.out _ _ ⟨_, _, _, _, _, _, _, _, _, _, rfl, Or.inr HFin.out⟩
    | i + 11, hi, _, _ => exact absurd hi (by show ¬ (i + 11 < 11); omega)
  rintro l9 a wf ⟨r0, r1, r2, r3, r4, r5, r6, r7, r8, r9, rfl, hF⟩ hall
  obtain ⟨_, b, rfl, hbB, hbx, hbel⟩ := hF.resolve_left (fun z => z.1 (hall 10 (by decide)))
  clear hF hall
  have HO := Lib.hid hbx
  have HBf := Lib.hid hbel
  have HBB := Lib.hid hbB
  have HZf := Lib.hid (HZ.out.below hbel)
  have HXf := Lib.hid (HX.out.below hbel)
  have HBw := Lib.hid (below_2 HB.out hbel)
  have hq0 := HXf.out.cell 0
  simp only [List.getElem?_toArray, List.getElem?_cons_zero] at hq0
  have hne : b ≠ w.heap.size := by have h1 := HBB.out; have h2 := HHS.out; omega
  have hne3 : w.heap.size ≠ b := fun h => hne h.symm
  clear hbx hbel hbB
  by_cases h3 : s.op = 3
  · have hRv : R = ⟨1, g, 1, 0⟩ := by rw [← HR.out, h3]; rfl
    subst hRv
    have H3 := Lib.hid h3
    rw [h3] at hq0
    clear h3
    obtain ⟨k0, k1, k2, k3, k4, k5, k6, k7⟩ := four_open HO.out
    obtain ⟨d0, d1, d2, d3, d4, d5, d6, d7⟩ := four_open HZf.out
    have hz0 := HZf.out.keep (Below.heap_setCell wf ⟨b, 2, none⟩ (.int .i64 1) (w.heap.size + 1) (by have h1 := HBB.out; have h2 := HHS.out; show w.heap.size + 1 ≠ b; omega))
    obtain ⟨e0, e1, e2, e3, e4, e5, e6, e7⟩ := four_open hz0
    have hne1 : b ≠ w.heap.size + 1 := by have h1 := HBB.out; have h2 := HHS.out; omega
    have hne2 : w.heap.size + 1 ≠ b := fun h => hne1 h.symm
    have hx0 := HXf.out.keep (Below.heap_setCell wf ⟨b, 2, none⟩ (.int .i64 1) w.heap.size (by show w.heap.size ≠ b; exact hne3))
    have hq1 := hx0.cell 0
    simp only [List.getElem?_toArray, List.getElem?_cons_zero] at hq1
    rw [H3.out] at hq1
    clear hx0
    have hz := four_set hz0 (.int .i64 1) (.int .i64 (g : Int)) (.int .i64 1) (.int .i64 0)
    have q0 := hz.cell 0
    have q1 := hz.cell 1
    have q2 := hz.cell 2
    have q3 := hz.cell 3
    simp only [List.getElem?_toArray, List.getElem?_cons_zero, List.getElem?_cons_succ] at q0 q1 q2 q3
    clear hz hz0
    go_wp2_with fail
    refine bodyPost_ret (v := .agg #[.int .i64 1, .int .i64 (g : Int), .int .i64 1, .int .i64 0]) (by simp [results, Tryz.results57, go_sem, q0, q1, q2, q3]) rfl ?_
    exact ⟨rfl, four_below (HBw.out.setCell (p := ⟨b, 2, none⟩) (by have h1 := HBB.out; have h2 := HHS.out; show w.heap.size ≤ b; omega) _) (Nat.le_succ _) _ _ _ _⟩
  by_cases h4 : s.op = 4
  · have hRv : R = ⟨1, g, 1, 0⟩ := by rw [← HR.out, h4]; rfl
    subst hRv
    have H4 := Lib.hid h4
    rw [h4] at hq0
    clear h4 h3
    obtain ⟨k0, k1, k2, k3, k4, k5, k6, k7⟩ := four_open HO.out
    obtain ⟨d0, d1, d2, d3, d4, d5, d6, d7⟩ := four_open HZf.out
    have hz0 := HZf.out.keep (Below.heap_setCell wf ⟨b, 2, none⟩ (.int .i64 1) (w.heap.size + 1) (by have h1 := HBB.out; have h2 := HHS.out; show w.heap.size + 1 ≠ b; omega))
    obtain ⟨e0, e1, e2, e3, e4, e5, e6, e7⟩ := four_open hz0
    have hne1 : b ≠ w.heap.size + 1 := by have h1 := HBB.out; have h2 := HHS.out; omega
    have hne2 : w.heap.size + 1 ≠ b := fun h => hne1 h.symm
    have hx0 := HXf.out.keep (Below.heap_setCell wf ⟨b, 2, none⟩ (.int .i64 1) w.heap.size (by show w.heap.size ≠ b; exact hne3))
    have hq1 := hx0.cell 0
    simp only [List.getElem?_toArray, List.getElem?_cons_zero] at hq1
    rw [H4.out] at hq1
    clear hx0
    have hz := four_set hz0 (.int .i64 1) (.int .i64 (g : Int)) (.int .i64 1) (.int .i64 0)
    have q0 := hz.cell 0
    have q1 := hz.cell 1
    have q2 := hz.cell 2
    have q3 := hz.cell 3
    simp only [List.getElem?_toArray, List.getElem?_cons_zero, List.getElem?_cons_succ] at q0 q1 q2 q3
    clear hz hz0
    go_wp2_with fail
    refine bodyPost_ret (v := .agg #[.int .i64 1, .int .i64 (g : Int), .int .i64 1, .int .i64 0]) (by simp [results, Tryz.results57, go_sem, q0, q1, q2, q3]) rfl ?_
    exact ⟨rfl, four_below (HBw.out.setCell (p := ⟨b, 2, none⟩) (by have h1 := HBB.out; have h2 := HHS.out; show w.heap.size ≤ b; omega) _) (Nat.le_succ _) _ _ _ _⟩
  by_cases h7 : s.op = 7
  · have hRv : R = ⟨1, g, 0, 1⟩ := by rw [← HR.out, h7]; rfl
    subst hRv
    have H7 := Lib.hid h7
    rw [h7] at hq0
    clear h7 h3 h4
    obtain ⟨k0, k1, k2, k3, k4, k5, k6, k7⟩ := four_open HO.out
    obtain ⟨d0, d1, d2, d3, d4, d5, d6, d7⟩ := four_open HZf.out
    have hz0 := HZf.out.keep (Below.heap_setCell wf ⟨b, 3, none⟩ (.int .i64 1) (w.heap.size + 1) (by have h1 := HBB.out; have h2 := HHS.out; show w.heap.size + 1 ≠ b; omega))
    obtain ⟨e0, e1, e2, e3, e4, e5, e6, e7⟩ := four_open hz0
    have hne1 : b ≠ w.heap.size + 1 := by have h1 := HBB.out; have h2 := HHS.out; omega
    have hne2 : w.heap.size + 1 ≠ b := fun h => hne1 h.symm
    have hx0 := HXf.out.keep (Below.heap_setCell wf ⟨b, 3, none⟩ (.int .i64 1) w.heap.size (by show w.heap.size ≠ b; exact hne3))
    have hq1 := hx0.cell 0
    simp only [List.getElem?_toArray, List.getElem?_cons_zero] at hq1
    rw [H7.out] at hq1
    clear hx0
    have hz := four_set hz0 (.int .i64 1) (.int .i64 (g : Int)) (.int .i64 0) (.int .i64 1)
    have q0 := hz.cell 0
    have q1 := hz.cell 1
    have q2 := hz.cell 2
    have q3 := hz.cell 3
    simp only [List.getElem?_toArray, List.getElem?_cons_zero, List.getElem?_cons_succ] at q0 q1 q2 q3
    clear hz hz0
    go_wp2_with fail
    refine bodyPost_ret (v := .agg #[.int .i64 1, .int .i64 (g : Int), .int .i64 0, .int .i64 1]) (by simp [results, Tryz.results57, go_sem, q0, q1, q2, q3]) rfl ?_
    exact ⟨rfl, four_below (HBw.out.setCell (p := ⟨b, 3, none⟩) (by have h1 := HBB.out; have h2 := HHS.out; show w.heap.size ≤ b; omega) _) (Nat.le_succ _) _ _ _ _⟩
  have hRv : R = ⟨1, g, 0, 0⟩ := by rw [← HR.out, if_neg (fun h => h.elim h3 h4), if_neg h7]
  subst hRv
  have b3 : (s.op == 3) = false := beq_eq_false_iff_ne.2 h3
  have b4 : (s.op == 4) = false := beq_eq_false_iff_ne.2 h4
  have b7 : (s.op == 7) = false := beq_eq_false_iff_ne.2 h7
  clear h3 h4 h7
  obtain ⟨k0, k1, k2, k3, k4, k5, k6, k7⟩ := four_open HO.out
  obtain ⟨d0, d1, d2, d3, d4, d5, d6, d7⟩ := four_open HZf.out
  have hz0 := HZf.out
  have hz := four_set hz0 (.int .i64 1) (.int .i64 (g : Int)) (.int .i64 0) (.int .i64 0)
  have q0 := hz.cell 0
  have q1 := hz.cell 1
  have q2 := hz.cell 2
  have q3 := hz.cell 3
  simp only [List.getElem?_toArray, List.getElem?_cons_zero, List.getElem?_cons_succ] at q0 q1 q2 q3
  clear hz hz0
  go_wp2_with fail
  refine bodyPost_ret (v := .agg #[.int .i64 1, .int .i64 (g : Int), .int .i64 0, .int .i64 0]) (by simp [results, Tryz.results57, go_sem, q0, q1, q2, q3]) rfl ?_
  exact ⟨rfl, four_below HBw.out (Nat.le_succ _) _ _ _ _⟩
end Go.Proofs.YtkjefigebdbkaaaGreatDoor.Q
namespace Go.Proofs.YtkjefigebdbkaaaGreatDoor.Q
open Go.RowKit
open A (Ex St Pr Bx exV okE okB okS cE cB cS stC Bodies OkP PrIn prV prO)
open L (below_2 below_box ret_bool ret_int)
open P (On on_set off_of wp_region_inv IS FT)

theorem cB_get {l : List St} {k : Nat} (h : k < l.length) : cS l[k] ≤ cB l := by
  have h1 := A.cB_take h
  have h2 := A.cB_le l (k + 1)
  omega
set_option maxHeartbeats 8000000 in
set_option maxRecDepth 100000 in
theorem olist_any : ∀ l, QL l := by
  refine A.body_ind fun l ih => ?_
  intro a c w hl hok hgo hsz hK
  obtain ⟨W1, e1⟩ : ∃ z, z = w.alloc (.cells #[.int .i64 0, .int .i64 0, .int .i64 0, .int .i64 0] 57) := ⟨_, rfl⟩
  have bb1 : Below w.heap.size w W1 := by rw [e1]; exact below_box _ _
  have xx1 := Bx.new w #[.int .i64 0, .int .i64 0, .int .i64 0, .int .i64 0] 57
  rw [← e1] at xx1
  have s1 : W1.heap.size = w.heap.size + 1 := by rw [e1]; simp
  obtain ⟨W2, e2⟩ : ∃ z, z = W1.alloc (.cells #[.int .i64 0, .int .i64 0, .int .i64 0, .int .i64 0] 57) := ⟨_, rfl⟩
  have bb2 : Below W1.heap.size W1 W2 := by rw [e2]; exact below_box _ _
  have xx2 := Bx.new W1 #[.int .i64 0, .int .i64 0, .int .i64 0, .int .i64 0] 57
  rw [← e2] at xx2
  rw [s1] at xx2
  have HB := Lib.hid (below_2 bb1 bb2)
  have HR := Lib.hid (xx1.below bb2)
  have HA0 := Lib.hid xx2
  have HK : Hid (Bodies w a l) := hK
  have HW : Hid ((w.alloc (.cells #[.int .i64 0, .int .i64 0, .int .i64 0, .int .i64 0] 57)).alloc (.cells #[.int .i64 0, .int .i64 0, .int .i64 0, .int .i64 0] 57) = W2) := by show _ = _; rw [← e1, ← e2]
  have HS2 : Hid (W2.heap.size = w.heap.size + 1 + 1) := by show _ = _; rw [e2]; simp [s1]
  have HS : Hid (∀ k (h : k < l.length) a1 c1 a2 c2 a3 c3 a4 c4 w', A.StKids w' l[k] a1 a2 a3 a4 → Calls Tryz.prog 94 #[stC l[k] a1 c1 a2 c2 a3 c3 a4 c4] w' fun e w'' => e = .returned (ctV (exS l[k]).cut) ∧ Below w'.heap.size w' w'') := fun k h a1 c1 a2 c2 a3 c3 a4 c4 w' hk =>
    ostmt_any l[k] (ih k h).1 (ih k h).2 a1 c1 a2 c2 a3 c3 a4 c4 (A.okB.get hok k h) (hgo.get k h) (Nat.le_trans (cB_get h) hsz) w' hk
  obtain ⟨g, hg⟩ : ∃ g, l.length = g := ⟨_, rfl⟩
  have HL := Lib.hid hg
  rw [hg] at hl ⊢
  clear e1 e2 bb1 bb2 xx1 xx2 s1 hK hok hgo hsz ih hg
  go_enter Tryz.func61, Tryz.ntmps61
  go_wp2_with fail
  rw [HW.out]
  go_loopw [8] (fun s8 wr => ∃ (k : Nat) (X : Ct), k ≤ g ∧ s8 = .int .i64 k ∧ Hid (X = (exB (l.take k)).cut) ∧ Hid (Bx wr (w.heap.size + 1) #[.int .i64 (X.s : Int), .int .i64 (X.g : Int), .int .i64 (X.u : Int), .int .i64 (X.m : Int)] 57) ∧ Hid (Below (w.heap.size + 1) W2 wr)) (fun s8 _ => g - (intOf s8).toNat)
  case atStart => exact ⟨0, Ct.z, Nat.zero_le _, rfl, by show _ = _; rw [List.take_zero, exB]; rfl, HA0.out, Below.refl _ _⟩
  case round =>
    obtain ⟨k, X, hk, rfl, HX, HA, HBr⟩ := hrel
    have HBw : Hid (Below w.heap.size w wr) := HB.out.trans (HBr.out.mono (Nat.le_succ _))
    have HSZ : Hid (W2.heap.size ≤ wr.heap.size) := HBr.out.size
    by_cases hlt : k < g
    · have hlx : k < l.length := by rw [HL.out]; exact hlt
      obtain ⟨b2, i2, rfl, hat⟩ := (HK.out.below HBw.out).open hlx
      have hS := HS.out k hlx
      have hY := exB_take hlx
      generalize l[k] = s at hat hS hY
      obtain ⟨a1, c1, a2, c2, a3, c3, a4, c4, hcs, hks⟩ := hat.open
      have hb5 := below_box wr (.cells #[.int .i64 s.op, .string s.name, .int .i64 s.mx, .int .i64 s.a.op, .int .i64 s.a.n, .string s.a.s, .slice a1 s.a.args.length c1, .int .i64 s.b.op, .int .i64 s.b.n, .string s.b.s, .slice a2 s.b.args.length c2, .slice a3 s.body.length c3, .slice a4 s.els.length c4] 49)
      have hx5 := Bx.new wr #[.int .i64 s.op, .string s.name, .int .i64 s.mx, .int .i64 s.a.op, .int .i64 s.a.n, .string s.a.s, .slice a1 s.a.args.length c1, .int .i64 s.b.op, .int .i64 s.b.n, .string s.b.s, .slice a2 s.b.args.length c2, .slice a3 s.body.length c3, .slice a4 s.els.length c4] 49
      have ha5 := HA.out.below hb5
      obtain ⟨W5, hW5⟩ : ∃ z, wr.alloc (.cells #[.int .i64 s.op, .string s.name, .int .i64 s.mx, .int .i64 s.a.op, .int .i64 s.a.n, .string s.a.s, .slice a1 s.a.args.length c1, .int .i64 s.b.op, .int .i64 s.b.n, .string s.b.s, .slice a2 s.b.args.length c2, .slice a3 s.body.length c3, .slice a4 s.els.length c4] 49) = z := ⟨_, rfl⟩
      rw [hW5] at hb5 hx5 ha5
      have HW5 := Lib.hid hW5
      have HX5 := Lib.hid hx5
      have HA5 := Lib.hid ha5
      have HB5 : Hid (Below (w.heap.size + 1) W2 W5) := HBr.out.trans (hb5.mono (by have h1 := HSZ.out; have h2 := HS2.out; omega))
      have HSt : Hid (∀ w', Below W5.heap.size W5 w' → Calls Tryz.prog 94 #[stC s a1 c1 a2 c2 a3 c3 a4 c4] w' fun e w'' => e = .returned (ctV (exS s).cut) ∧ Below w'.heap.size w' w'') := fun w' hb => hS a1 c1 a2 c2 a3 c3 a4 c4 w' (hks.below (below_2 hb5 hb))
      have HPl : Hid (∀ w', Calls Tryz.prog 93 #[.agg #[.int .i64 (X.s : Int), .int .i64 (X.g : Int), .int .i64 (X.u : Int), .int .i64 (X.m : Int)], ctV (exS s).cut] w' fun e w'' => e = .returned (ctV (X.add (exS s).cut).cut) ∧ Below w'.heap.size w' w'') := fun w' => oplus_any X _ (by rw [HX.out]; exact Bd.mono (Bd.cut _) (by decide)) (Bd.mono (Bd.cut _) (by decide)) w'
      obtain ⟨Z, hZ⟩ : ∃ Z, (X.add (exS s).cut).cut = Z := ⟨_, rfl⟩
      have HZ : Hid (Z = (exB (l.take (k + 1))).cut) := by show _ = _; rw [← hZ, hY, HX.out, Ct.cut_add]
      rw [hZ] at HPl
      generalize (exS s).cut = Y at HSt HPl
      unfold ctV at HPl
      have HPl' : Hid (∀ w', Calls Tryz.prog 93 #[.agg #[.int .i64 (X.s : Int), .int .i64 (X.g : Int), .int .i64 (X.u : Int), .int .i64 (X.m : Int)], ctV Y] w' fun e w'' => e = .returned (.agg #[.int .i64 (Z.s : Int), .int .i64 (Z.g : Int), .int .i64 (Z.u : Int), .int .i64 (Z.m : Int)]) ∧ Below w'.heap.size w' w'') := HPl.out
      obtain ⟨k0, k1, k2, k3, k4, k5, k6, k7, k8, k9, k10, k11, k12⟩ := hcs
      clear hat hS hY hks hb5 hx5 ha5 hW5 hZ HPl
      unfold stC at HSt
      go_upto_region 5 with fail
      rw [HW5.out]
      clear k0 k1 k2 k3 k4 k5 k6 k7 k8 k9 k10 k11 k12
      refine wp_region_inv rfl (fun l a w' => ∃ v0 v1 v2 v3 : Value, a = { tmps := #[Value.slice (some { block := b2, off := i2 }) g c, undef, Value.pointer (some { block := w.heap.size, off := 0 }), Value.pointer (some { block := w.heap.size + 1, off := 0 }), undef, Value.pointer (some { block := wr.heap.size, off := 0 }), Value.slice (some { block := b2, off := i2 }) g c, Value.int IntKind.i64 ↑g, Value.int IntKind.i64 ↑k, Value.bool true, Value.pointer (some { block := b2, off := i2 + k * 13 }), Value.agg #[Value.int IntKind.i64 s.op, Value.string s.name, Value.int IntKind.i64 s.mx, Value.int IntKind.i64 s.a.op, Value.int IntKind.i64 s.a.n, Value.string s.a.s, Value.slice a1 s.a.args.length c1, Value.int IntKind.i64 s.b.op, Value.int IntKind.i64 s.b.n, Value.string s.b.s, Value.slice a2 s.b.args.length c2, Value.slice a3 s.body.length c3, Value.slice a4 s.els.length c4], v0, v1, v2, v3, u16, undef], defers := [] } ∧ ((¬ On l 4 ∧ IS (FT [some (.agg #[.int .i64 (X.s : Int), .int .i64 (X.g : Int), .int .i64 (X.u : Int), .int .i64 (X.m : Int)]), some (.agg #[.int .i64 s.op, .string s.name, .int .i64 s.mx, .int .i64 s.a.op, .int .i64 s.a.n, .string s.a.s, .slice a1 s.a.args.length c1, .int .i64 s.b.op, .int .i64 s.b.n, .string s.b.s, .slice a2 s.b.args.length c2, .slice a3 s.body.length c3, .slice a4 s.els.length c4]), some (ctV Y), some (.agg #[.int .i64 (Z.s : Int), .int .i64 (Z.g : Int), .int .i64 (Z.u : Int), .int .i64 (Z.m : Int)])] 57 #[.int .i64 0, .int .i64 0, .int .i64 0, .int .i64 0] (0)) W5 l w' [v0, v1, v2, v3]) ∨ (On l 4 ∧ (∀ j, j < 4 → On l j) ∧ Bx w' (w.heap.size + 1) #[.int .i64 (Z.s : Int), .int .i64 (Z.g : Int), .int .i64 (Z.u : Int), .int .i64 (Z.m : Int)] 57 ∧ Below (w.heap.size + 1) W2 w'))) (by kernel_rfl) ?_ ?_ ?_
      · intro l hl
        exact ⟨_, _, _, _, rfl, Or.inl ⟨hl 4, IS.start _ _ hl _⟩⟩
      · rintro l a w' ⟨v0, v1, v2, v3, rfl, hF⟩ i hi h0 hall
        have hF2 : i < 4 → ¬ On l 4 ∧ IS (FT [some (.agg #[.int .i64 (X.s : Int), .int .i64 (X.g : Int), .int .i64 (X.u : Int), .int .i64 (X.m : Int)]), some (.agg #[.int .i64 s.op, .string s.name, .int .i64 s.mx, .int .i64 s.a.op, .int .i64 s.a.n, .string s.a.s, .slice a1 s.a.args.length c1, .int .i64 s.b.op, .int .i64 s.b.n, .string s.b.s, .slice a2 s.b.args.length c2, .slice a3 s.body.length c3, .slice a4 s.els.length c4]), some (ctV Y), some (.agg #[.int .i64 (Z.s : Int), .int .i64 (Z.g : Int), .int .i64 (Z.u : Int), .int .i64 (Z.m : Int)])] 57 #[.int .i64 0, .int .i64 0, .int .i64 0, .int .i64 0] (0)) W5 l w' [v0, v1, v2, v3] := fun h => hF.resolve_right (fun z => off_of h0 (z.2.1 i h))
        match i, hi, h0, hall, hF2 with
        | 0, _, h0, hall, hF2 =>
          obtain ⟨hnm, F⟩ := hF2 (by decide)
          have HNm : Hid (¬ On (l.setIfInBounds 0 true) 4) := fun z => hnm (((on_set h0 4).1 z).resolve_left (by decide))
          clear hF hF2 hnm
          obtain ⟨q0, q1, q2, q3, q4, q5, q6, q7⟩ := four_open (HA5.out.below F.bel)
          have HF := Lib.hid (F.step FT.mono h0 (show 0 < 4 by decide) (Below.refl _ _) (x := .agg #[.int .i64 (X.s : Int), .int .i64 (X.g : Int), .int .i64 (X.u : Int), .int .i64 (X.m : Int)]) rfl)
          clear F hall h0
          refine wpOp_step (by rfl) (fun K' hK => ?_)
          have HKk := Lib.hid hK
          clear hK
          go_simp
          exact HKk.out _ _ ⟨_, _, _, _, rfl, Or.inl ⟨HNm.out, HF.out⟩⟩
        | 1, _, h0, hall, hF2 =>
          obtain ⟨hnm, F⟩ := hF2 (by decide)
          have HNm : Hid (¬ On (l.setIfInBounds 1 true) 4) := fun z => hnm (((on_set h0 4).1 z).resolve_left (by decide))
          clear hF hF2 hnm
          have hxx := HX5.out.below F.bel
          have q0 := hxx.cell 0
          have q1 := hxx.cell 1
          have q2 := hxx.cell 2
          have q3 := hxx.cell 3
          have q4 := hxx.cell 4
          have q5 := hxx.cell 5
          have q6 := hxx.cell 6
          have q7 := hxx.cell 7
          have q8 := hxx.cell 8
          have q9 := hxx.cell 9
          have q10 := hxx.cell 10
          have q11 := hxx.cell 11
          have q12 := hxx.cell 12
          simp only [List.getElem?_toArray, List.getElem?_cons_zero, List.getElem?_cons_succ] at q0 q1 q2 q3 q4 q5 q6 q7 q8 q9 q10 q11 q12
          clear hxx
          have HF := Lib.hid (F.step FT.mono h0 (show 1 < 4 by decide) (Below.refl _ _) (x := .agg #[.int .i64 s.op, .string s.name, .int .i64 s.mx, .int .i64 s.a.op, .int .i64 s.a.n, .string s.a.s, .slice a1 s.a.args.length c1, .int .i64 s.b.op, .int .i64 s.b.n, .string s.b.s, .slice a2 s.b.args.length c2, .slice a3 s.body.length c3, .slice a4 s.els.length c4]) rfl)
          clear F hall h0
          refine wpOp_step (by rfl) (fun K' hK => ?_)
          have HKk := Lib.hid hK
          clear hK
          go_simp
          exact HKk.out _ _ ⟨_, _, _, _, rfl, Or.inl ⟨HNm.out, HF.out⟩⟩
        | 2, _, h0, hall, hF2 =>
          obtain ⟨hnm, F⟩ := hF2 (by decide)
          have HNm : Hid (¬ On (l.setIfInBounds 2 true) 4) := fun z => hnm (((on_set h0 4).1 z).resolve_left (by decide))
          clear hF hF2 hnm
          obtain rfl : v1 = .agg #[.int .i64 s.op, .string s.name, .int .i64 s.mx, .int .i64 s.a.op, .int .i64 s.a.n, .string s.a.s, .slice a1 s.a.args.length c1, .int .i64 s.b.op, .int .i64 s.b.n, .string s.b.s, .slice a2 s.b.args.length c2, .slice a3 s.body.length c3, .slice a4 s.els.length c4] := F.f 1 (hall 1 (by decide +kernel))
          have HC := Lib.hid (HSt.out w' F.bel)
          have HF := Lib.hid (fun w'' hb x hx => F.step FT.mono h0 (show 2 < 4 by decide) (w' := w'') hb (x := x) hx)
          clear F hall h0
          refine wpOp_step (by rfl) (fun K' hK => ?_)
          have HKk := Lib.hid hK
          clear hK
          go_simp
          go_at_call 94
          refine HC.out.mono ?_; rintro e' w5 ⟨rfl, hb5⟩
          have HF5 := Lib.hid (HF.out w5 hb5 (ctV Y) rfl)
          exact HKk.out _ _ ⟨_, _, _, _, rfl, Or.inl ⟨HNm.out, HF5.out⟩⟩
        | 3, _, h0, hall, hF2 =>
          obtain ⟨hnm, F⟩ := hF2 (by decide)
          have HNm : Hid (¬ On (l.setIfInBounds 3 true) 4) := fun z => hnm (((on_set h0 4).1 z).resolve_left (by decide))
          clear hF hF2 hnm
          obtain rfl : v0 = .agg #[.int .i64 (X.s : Int), .int .i64 (X.g : Int), .int .i64 (X.u : Int), .int .i64 (X.m : Int)] := F.f 0 (hall 0 (by decide +kernel))
          obtain rfl : v2 = ctV Y := F.f 2 (hall 2 (by decide +kernel))
          have HC := Lib.hid (HPl'.out w')
          have HF := Lib.hid (fun w'' hb x hx => F.step FT.mono h0 (show 3 < 4 by decide) (w' := w'') hb (x := x) hx)
          clear F hall h0
          refine wpOp_step (by rfl) (fun K' hK => ?_)
          have HKk := Lib.hid hK
          clear hK
          go_simp
          go_at_call 93
          refine HC.out.mono ?_; rintro e' w5 ⟨rfl, hb5⟩
          have HF5 := Lib.hid (HF.out w5 hb5 (.agg #[.int .i64 (Z.s : Int), .int .i64 (Z.g : Int), .int .i64 (Z.u : Int), .int .i64 (Z.m : Int)]) rfl)
          exact HKk.out _ _ ⟨_, _, _, _, rfl, Or.inl ⟨HNm.out, HF5.out⟩⟩
        | 4, _, h0, hall, _ =>
          obtain ⟨_, F⟩ := hF.resolve_right (fun z => off_of h0 z.1)
          obtain rfl : v3 = .agg #[.int .i64 (Z.s : Int), .int .i64 (Z.g : Int), .int .i64 (Z.u : Int), .int .i64 (Z.m : Int)] := F.f 3 (hall 3 (by decide +kernel))
          have hZZ := HA5.out.below F.bel
          obtain ⟨q0, q1, q2, q3, q4, q5, q6, q7⟩ := four_open (hZZ)
          have HFin : Hid (On (l.setIfInBounds 4 true) 4 ∧ (∀ j, j < 4 → On (l.setIfInBounds 4 true) j) ∧ Bx ((((w'.setCell ⟨w.heap.size + 1, 0, none⟩ (.int .i64 (Z.s : Int))).setCell ⟨w.heap.size + 1, 1, none⟩ (.int .i64 (Z.g : Int))).setCell ⟨w.heap.size + 1, 2, none⟩ (.int .i64 (Z.u : Int))).setCell ⟨w.heap.size + 1, 3, none⟩ (.int .i64 (Z.m : Int))) (w.heap.size + 1) #[.int .i64 (Z.s : Int), .int .i64 (Z.g : Int), .int .i64 (Z.u : Int), .int .i64 (Z.m : Int)] 57 ∧ Below (w.heap.size + 1) W2 ((((w'.setCell ⟨w.heap.size + 1, 0, none⟩ (.int .i64 (Z.s : Int))).setCell ⟨w.heap.size + 1, 1, none⟩ (.int .i64 (Z.g : Int))).setCell ⟨w.heap.size + 1, 2, none⟩ (.int .i64 (Z.u : Int))).setCell ⟨w.heap.size + 1, 3, none⟩ (.int .i64 (Z.m : Int)))) :=
            ⟨(on_set h0 4).2 (Or.inl rfl), (fun j hj => by
              refine (on_set h0 j).2 (Or.inr (hall j ?_))
              revert hj
              revert j
              decide +kernel), four_set hZZ _ _ _ _, four_below (HB5.out.trans (F.bel.mono (by have h1 := HB5.out.size; have h2 := HS2.out; omega))) (Nat.le_refl _) _ _ _ _⟩
          clear F hall h0 hF hF2
          clear hZZ
          refine wpOp_step (by rfl) (fun K' hK => ?_)
          have HKk := Lib.hid hK
          clear hK
          go_simp
          exact HKk.out _ _ ⟨_, _, _, _, rfl, Or.inr HFin.out⟩
        | i + 5, hi, _, _, _ => exact absurd hi (by show ¬ (i + 5 < 5); omega)
      rintro l9 a wz ⟨t0, t1, t2, t3, rfl, hF⟩ hall
      obtain ⟨_, _, hZ, hBl⟩ := hF.resolve_left (fun z => z.1 (hall 4 (by decide)))
      clear hF hall
      have HZ1 := Lib.hid hZ
      have HB1 := Lib.hid hBl
      clear hZ hBl
      go_wp2_with fail
      go_roundw
      case rel => exact ⟨k + 1, Z, by omega, by go_num, HZ.out, HZ1.out, HB1.out⟩
      case measure => simp [intOf]; omega
    · have hV : X = (exB l).cut := by rw [HX.out, List.take_of_length_le (by rw [HL.out]; omega)]
      have hrr := HR.out.keep (HBr.out.block w.heap.size (Nat.lt_succ_self _))
      obtain ⟨d0, d1, d2, d3, d4, d5, d6, d7⟩ := four_open hrr
      obtain ⟨e0, e1, e2, e3, e4, e5, e6, e7⟩ := four_open HA.out
      have hz := four_set hrr (.int .i64 (X.s : Int)) (.int .i64 (X.g : Int)) (.int .i64 (X.u : Int)) (.int .i64 (X.m : Int))
      have q0 := hz.cell 0
      have q1 := hz.cell 1
      have q2 := hz.cell 2
      have q3 := hz.cell 3
      simp only [List.getElem?_toArray, List.getElem?_cons_zero, List.getElem?_cons_succ] at q0 q1 q2 q3
      have HV := Lib.hid hV
      clear hz hrr hV
      go_wp2_with fail
      refine bodyPost_ret (v := .agg #[.int .i64 (X.s : Int), .int .i64 (X.g : Int), .int .i64 (X.u : Int), .int .i64 (X.m : Int)]) (by simp [results, Tryz.results61, go_sem, q0, q1, q2, q3]) rfl ?_
      rw [← HV.out]
      exact ⟨rfl, four_below HBw.out (Nat.le_refl _) _ _ _ _⟩
end Go.Proofs.YtkjefigebdbkaaaGreatDoor.Q
namespace Go.Proofs.YtkjefigebdbkaaaGreatDoor.Q
open Go.RowKit
open A (Ex St Bx exV okE okB okS cE cB cS stC Bodies)
open L (below_2 below_box ret_bool ret_int)
open P (On on_set off_of wp_region_inv2 IS FT deps Closed)

theorem mul_one_add (k : Nat) (B : Ct) : (Ct.mul k B).add ⟨k, 0, 0, 0⟩ = Ct.mul k (B.add Ct.one) := by
  refine Ct.eq ?_ ?_ ?_ ?_ <;> simp [Ct.mul, Ct.add, Ct.one, Nat.add_mul]
def QRL (l : List St) : Prop := ∀ (a : Option Addr) (c : Nat) (w : World), l.length ≤ 1000000000000000 → okB l → goB l → cB l ≤ 16000 → Bodies w a l →
  Calls Tryz.prog 34 #[.slice a l.length c] w fun e' w' => e' = .returned (ctV (exB l).cut) ∧ Below w.heap.size w w'
set_option maxHeartbeats 16000000 in
set_option maxRecDepth 100000 in
theorem rbody_any : ∀ l, QRL l := by
  refine A.body_ind fun l ih => ?_
  intro a c w hl hok hgo hsz hK
  obtain ⟨W1, e1⟩ : ∃ z, z = w.alloc (.cells #[.int .i64 0, .int .i64 0, .int .i64 0, .int .i64 0] 34) := ⟨_, rfl⟩
  have bb1 : Below w.heap.size w W1 := by rw [e1]; exact below_box _ _
  have xx1 := Bx.new w #[.int .i64 0, .int .i64 0, .int .i64 0, .int .i64 0] 34
  rw [← e1] at xx1
  have s1 : W1.heap.size = w.heap.size + 1 := by rw [e1]; simp
  obtain ⟨W2, e2⟩ : ∃ z, z = W1.alloc (.cells #[.int .i64 0, .int .i64 0, .int .i64 0, .int .i64 0] 34) := ⟨_, rfl⟩
  have bb2 : Below W1.heap.size W1 W2 := by rw [e2]; exact below_box _ _
  have xx2 := Bx.new W1 #[.int .i64 0, .int .i64 0, .int .i64 0, .int .i64 0] 34
  rw [← e2] at xx2
  rw [s1] at xx2
  have HB := Lib.hid (below_2 bb1 bb2)
  have HR := Lib.hid (xx1.below bb2)
  have HA0 := Lib.hid xx2
  have HK : Hid (Bodies w a l) := hK
  have HW : Hid ((w.alloc (.cells #[.int .i64 0, .int .i64 0, .int .i64 0, .int .i64 0] 34)).alloc (.cells #[.int .i64 0, .int .i64 0, .int .i64 0, .int .i64 0] 34) = W2) := by show _ = _; rw [← e1, ← e2]
  have HS2 : Hid (W2.heap.size = w.heap.size + 1 + 1) := by show _ = _; rw [e2]; simp [s1]
  have HIH := Lib.hid ih
  have HOk := Lib.hid hok
  have HGo := Lib.hid hgo
  have HSz := Lib.hid hsz
  obtain ⟨g, hg⟩ : ∃ g, l.length = g := ⟨_, rfl⟩
  have HL := Lib.hid hg
  rw [hg] at hl ⊢
  clear e1 e2 bb1 bb2 xx1 xx2 s1 hK hok hgo hsz ih hg
  go_enter Tryz.func34, Tryz.ntmps34
  go_wp2_with fail
  rw [HW.out]
  go_loopw [4] (fun s4 wr => ∃ (k : Nat) (X : Ct), k ≤ g ∧ s4 = .int .i64 k ∧ Hid (X = (exB (l.take k)).cut) ∧ Hid (Bx wr (w.heap.size + 1) #[.int .i64 (X.s : Int), .int .i64 (X.g : Int), .int .i64 (X.u : Int), .int .i64 (X.m : Int)] 34) ∧ Hid (Below (w.heap.size + 1) W2 wr)) (fun s4 _ => g - (intOf s4).toNat)
  case atStart => exact ⟨0, Ct.z, Nat.zero_le _, rfl, by show _ = _; rw [List.take_zero, exB]; rfl, HA0.out, Below.refl _ _⟩
  case round =>
    obtain ⟨k, X, hk, rfl, HX, HA, HBr⟩ := hrel
    have HBw : Hid (Below w.heap.size w wr) := HB.out.trans (HBr.out.mono (Nat.le_succ _))
    have HSZ : Hid (W2.heap.size ≤ wr.heap.size) := HBr.out.size
    by_cases hlt : k < g
    · have hlx : k < l.length := by rw [HL.out]; exact hlt
      obtain ⟨b2, i2, rfl, hat⟩ := (HK.out.below HBw.out).open hlx
      have hY := exB_take hlx
      have hos := A.okB.get HOk.out k hlx
      have hgs := goS_parts (HGo.out.get k hlx)
      have hss := Nat.le_trans (cB_get hlx) HSz.out
      have hih := HIH.out k hlx
      generalize l[k] = s at hat hY hos hgs hss hih
      obtain ⟨a1, c1, a2, c2, a3, c3, a4, c4, hcs, hks⟩ := hat.open
      have HOS := A.okS_open hos
      have hcp := A.cS_parts s
      have hpt := exS_parts s
      have hob : Bd 16000 (ownC s.op s.a s.b) := by
        have h1 := gE_cE s.a
        have h2 := gE_cE s.b
        unfold ownC
        refine ⟨by show 1 ≤ 16000; omega, by show gE s.a + gE s.b ≤ 16000; omega, ?_, ?_⟩
        · show (if s.op = 3 ∨ s.op = 4 then 1 else 0) ≤ 16000
          split <;> omega
        · show (if s.op = 7 then 1 else 0) ≤ 16000
          split <;> omega
      have hb3 := below_box wr (.cells #[.int .i64 s.op, .string s.name, .int .i64 s.mx, .int .i64 s.a.op, .int .i64 s.a.n, .string s.a.s, .slice a1 s.a.args.length c1, .int .i64 s.b.op, .int .i64 s.b.n, .string s.b.s, .slice a2 s.b.args.length c2, .slice a3 s.body.length c3, .slice a4 s.els.length c4] 49)
      have hx3 := Bx.new wr #[.int .i64 s.op, .string s.name, .int .i64 s.mx, .int .i64 s.a.op, .int .i64 s.a.n, .string s.a.s, .slice a1 s.a.args.length c1, .int .i64 s.b.op, .int .i64 s.b.n, .string s.b.s, .slice a2 s.b.args.length c2, .slice a3 s.body.length c3, .slice a4 s.els.length c4] 49
      obtain ⟨V1, hV1⟩ : ∃ z, wr.alloc (.cells #[.int .i64 s.op, .string s.name, .int .i64 s.mx, .int .i64 s.a.op, .int .i64 s.a.n, .string s.a.s, .slice a1 s.a.args.length c1, .int .i64 s.b.op, .int .i64 s.b.n, .string s.b.s, .slice a2 s.b.args.length c2, .slice a3 s.body.length c3, .slice a4 s.els.length c4] 49) = z := ⟨_, rfl⟩
      rw [hV1] at hb3 hx3
      have HV1 := Lib.hid hV1
      have HM := Lib.hid hx3
      have HAV := Lib.hid (HA.out.below hb3)
      have HBV : Hid (Below (w.heap.size + 1) W2 V1) := HBr.out.trans (hb3.mono (by have h1 := HSZ.out; have h2 := HS2.out; omega))
      have HOw := Lib.hid (rown_any s a1 c1 a2 c2 a3 c3 a4 c4 hos hss V1 (hks.below hb3))
      have HBody : Hid (∀ w', Below V1.heap.size V1 w' → Calls Tryz.prog 34 #[.slice a3 s.body.length c3] w' fun e w'' => e = .returned (ctV (exB s.body).cut) ∧ Below w'.heap.size w' w'') := fun w' hb => hih.1 a3 c3 w' HOS.bodyLen HOS.body hgs.2.1 (by omega) (hks.below (below_2 hb3 hb)).body
      have HEls : Hid (∀ w', Below V1.heap.size V1 w' → Calls Tryz.prog 34 #[.slice a4 s.els.length c4] w' fun e w'' => e = .returned (ctV (exB s.els).cut) ∧ Below w'.heap.size w' w'') := fun w' hb => hih.2 a4 c4 w' HOS.elsLen HOS.els hgs.2.2 (by omega) (hks.below (below_2 hb3 hb)).els
      have HMx := Lib.hid hgs.1
      have HPt := Lib.hid hpt
      have HYk := Lib.hid hY
      obtain ⟨m0, m1, m2, m3, m4, m5, m6, m7, m8, m9, m10, m11, m12⟩ := hcs
      generalize ownC s.op s.a s.b = O at HOw HPt hob
      have HOb := Lib.hid hob
      clear hat hY hos hgs hss hih hks HOS hcp hpt hb3 hx3 hV1 hob
      unfold stC ctV at HOw
      go_wp2_with fail
      rw [HV1.out]
      refine HOw.out.mono ?_; rintro e' w3 ⟨rfl, hb3⟩
      have hbo := below_box w3 (.cells #[.int .i64 (O.s : Int), .int .i64 (O.g : Int), .int .i64 (O.u : Int), .int .i64 (O.m : Int)] 34)
      have hxo := Bx.new w3 #[.int .i64 (O.s : Int), .int .i64 (O.g : Int), .int .i64 (O.u : Int), .int .i64 (O.m : Int)] 34
      obtain ⟨V4, hV4⟩ : ∃ z, w3.alloc (.cells #[.int .i64 (O.s : Int), .int .i64 (O.g : Int), .int .i64 (O.u : Int), .int .i64 (O.m : Int)] 34) = z := ⟨_, rfl⟩
      have hs4 : V4.heap.size = w3.heap.size + 1 := by rw [← hV4]; simp
      rw [hV4] at hbo hxo
      have HV4 := Lib.hid hV4
      have HO4 := Lib.hid hxo
      have HS4 := Lib.hid hs4
      have HB4 := Lib.hid (below_2 hb3 hbo)
      have HM4 := Lib.hid (HM.out.below HB4.out)
      have HA4 := Lib.hid (HAV.out.below HB4.out)
      have HSV : Hid (w.heap.size + 1 + 1 ≤ wr.heap.size) := by have h1 := HSZ.out; have h2 := HS2.out; show _ ≤ _; omega
      have HS3 : Hid (wr.heap.size < w3.heap.size) := (HM.out.below hb3).lt
      have HB4W : Hid (Below (w.heap.size + 1) W2 V4) := HBV.out.trans (HB4.out.mono (by have h1 := HAV.out.lt; omega))
      clear hb3 hbo hxo hV4 hs4 m0 m1 m2 m3 m4 m5 m6 m7 m8 m9 m10 m11 m12
      have r0 := HM4.out.cell 0
      simp only [List.getElem?_toArray, List.getElem?_cons_zero] at r0
      go_upto_region 7 with fail
      rw [HV4.out]
      by_cases h5 : s.op = 5
      · have hE : (Ct.add O ((exB s.body).mx (exB s.els))) = exS s := by rw [HPt.out, if_pos h5]
        have hEY : (Ct.add O ((exB s.body).cut.mx (exB s.els).cut)).cut = (exS s).cut := by rw [Ct.cut_mx, Ct.cut_addr, hE]
        have HG5 : Hid (∀ w', Calls Tryz.prog 59 #[ctV (exB s.body).cut, ctV (exB s.els).cut] w' fun e w'' => e = .returned (ctV ((exB s.body).cut.mx (exB s.els).cut)) ∧ Below w'.heap.size w' w'') := fun w' => rgreater_any _ _ w'
        have hP5 : ∀ w', Calls Tryz.prog 58 #[.agg #[.int .i64 (O.s : Int), .int .i64 (O.g : Int), .int .i64 (O.u : Int), .int .i64 (O.m : Int)], ctV ((exB s.body).cut.mx (exB s.els).cut)] w' fun e w'' => e = .returned (ctV (Ct.add O ((exB s.body).cut.mx (exB s.els).cut)).cut) ∧ Below w'.heap.size w' w'' := fun w' => rplus_any O _ (HOb.out.mono (by decide)) (by rw [Ct.cut_mx]; exact Bd.mono (Bd.cut _) (by decide)) w'
        rw [hEY] at hP5
        obtain ⟨Y, hY⟩ : ∃ Y, (exS s).cut = Y := ⟨_, rfl⟩
        rw [hY] at hP5
        have HY := Lib.hid hY
        have HP5 : Hid (∀ w', Calls Tryz.prog 58 #[.agg #[.int .i64 (O.s : Int), .int .i64 (O.g : Int), .int .i64 (O.u : Int), .int .i64 (O.m : Int)], ctV ((exB s.body).cut.mx (exB s.els).cut)] w' fun e w'' => e = .returned (.agg #[.int .i64 (Y.s : Int), .int .i64 (Y.g : Int), .int .i64 (Y.u : Int), .int .i64 (Y.m : Int)]) ∧ Below w'.heap.size w' w'') := hP5
        clear hE hEY hP5 hY
        generalize (exB s.body).cut.mx (exB s.els).cut = MM at HG5 HP5
        generalize (exB s.body).cut = X1 at HG5 HBody
        generalize (exB s.els).cut = X2 at HG5 HEls
        rw [h5] at r0
        have H5 := Lib.hid h5
        clear h5
        go_upto_region 8 with fail
        clear r0
        refine wp_region_inv2 rfl (fun l a w' => ∃ v0 v1 v2 v3 v4 v5 v6 v7 v8 : Value, a = { tmps := #[Value.slice (some { block := b2, off := i2 }) g c, undef, Value.pointer (some { block := w.heap.size, off := 0 }), Value.pointer (some { block := w.heap.size + 1, off := 0 }), Value.int IntKind.i64 ↑k, Value.pointer (some { block := wr.heap.size, off := 0 }), Value.pointer (some { block := w3.heap.size, off := 0 }), Value.agg #[Value.int IntKind.i64 0, Value.int IntKind.i64 0, Value.int IntKind.i64 0, Value.int IntKind.i64 0], Value.int IntKind.i64 ↑k, Value.slice (some { block := b2, off := i2 }) g c, Value.int IntKind.i64 ↑g, Value.bool true, u12, u13, Value.slice (some { block := b2, off := i2 }) g c, Value.int IntKind.i64 ↑k, Value.pointer (some { block := b2, off := i2 + k * 13 }), Value.agg #[Value.int IntKind.i64 s.op, Value.string s.name, Value.int IntKind.i64 s.mx, Value.int IntKind.i64 s.a.op, Value.int IntKind.i64 s.a.n, Value.string s.a.s, Value.slice a1 s.a.args.length c1, Value.int IntKind.i64 s.b.op, Value.int IntKind.i64 s.b.n, Value.string s.b.s, Value.slice a2 s.b.args.length c2, Value.slice a3 s.body.length c3, Value.slice a4 s.els.length c4], Value.agg #[Value.int IntKind.i64 s.op, Value.string s.name, Value.int IntKind.i64 s.mx, Value.int IntKind.i64 s.a.op, Value.int IntKind.i64 s.a.n, Value.string s.a.s, Value.slice a1 s.a.args.length c1, Value.int IntKind.i64 s.b.op, Value.int IntKind.i64 s.b.n, Value.string s.b.s, Value.slice a2 s.b.args.length c2, Value.slice a3 s.body.length c3, Value.slice a4 s.els.length c4], Value.agg #[Value.int IntKind.i64 ↑O.s, Value.int IntKind.i64 ↑O.g, Value.int IntKind.i64 ↑O.u, Value.int IntKind.i64 ↑O.m], Value.pointer (some { block := wr.heap.size, off := 0 }), Value.int IntKind.i64 5, Value.bool true, v0, v1, v2, v3, v4, v5, v6, v7, v8, u32, u33, u34, u35, u36, u37, u38, u39, u40, u41, u42, u43, u44, u45, u46, u47, u48, u49, undef], defers := [] } ∧ ((¬ On l 9 ∧ IS (FT [some (.agg #[.int .i64 (O.s : Int), .int .i64 (O.g : Int), .int .i64 (O.u : Int), .int .i64 (O.m : Int)]), some (.pointer (some ⟨wr.heap.size, 11, none⟩)), some (.slice a3 s.body.length c3), some (ctV X1), some (.pointer (some ⟨wr.heap.size, 12, none⟩)), some (.slice a4 s.els.length c4), some (ctV X2), some (ctV MM), some (.agg #[.int .i64 (Y.s : Int), .int .i64 (Y.g : Int), .int .i64 (Y.u : Int), .int .i64 (Y.m : Int)])] 34 #[.int .i64 0, .int .i64 0, .int .i64 0, .int .i64 0] (0)) V4 l w' [v0, v1, v2, v3, v4, v5, v6, v7, v8]) ∨ (On l 9 ∧ Bx w' (w3.heap.size) #[.int .i64 (Y.s : Int), .int .i64 (Y.g : Int), .int .i64 (Y.u : Int), .int .i64 (Y.m : Int)] 34 ∧ Below (w3.heap.size) V4 w'))) (by kernel_rfl) ?_ ?_ ?_
        · intro l hl
          exact ⟨_, _, _, _, _, _, _, _, _, rfl, Or.inl ⟨hl 9, IS.start _ _ hl _⟩⟩
        · rintro l a w' ⟨v0, v1, v2, v3, v4, v5, v6, v7, v8, rfl, hF⟩ hcl i hi h0 hall
          match i, hi, h0, hall with
          | 0, _, h0, hall =>
            have hno : ¬ On l 9 := fun z => off_of h0 (hcl 9 (z) 0 (by decide +kernel))
            obtain ⟨hnm, F⟩ := hF.resolve_right (fun z => hno z.1)
            have HNm : Hid (¬ On (l.setIfInBounds 0 true) 9) := fun z => hnm (((on_set h0 9).1 z).resolve_left (by decide))
            clear hF hnm hno
            obtain ⟨q0, q1, q2, q3, q4, q5, q6, q7⟩ := four_open (HO4.out.below F.bel)
            have HF := Lib.hid (F.step FT.mono h0 (show 0 < 9 by decide) (Below.refl _ _) (x := .agg #[.int .i64 (O.s : Int), .int .i64 (O.g : Int), .int .i64 (O.u : Int), .int .i64 (O.m : Int)]) rfl)
            clear F hall h0 hcl
            refine wpOp_step (by rfl) (fun K' hK => ?_)
            have HKk := Lib.hid hK
            clear hK
            go_simp
            exact HKk.out _ _ ⟨_, _, _, _, _, _, _, _, _, rfl, Or.inl ⟨HNm.out, HF.out⟩⟩
          | 1, _, h0, hall =>
            have hno : ¬ On l 9 := fun z => off_of h0 (hcl 9 (z) 1 (by decide +kernel))
            obtain ⟨hnm, F⟩ := hF.resolve_right (fun z => hno z.1)
            have HNm : Hid (¬ On (l.setIfInBounds 1 true) 9) := fun z => hnm (((on_set h0 9).1 z).resolve_left (by decide))
            clear hF hnm hno
            have HF := Lib.hid (F.step FT.mono h0 (show 1 < 9 by decide) (Below.refl _ _) (x := .pointer (some ⟨wr.heap.size, 11, none⟩)) rfl)
            clear F hall h0 hcl
            refine wpOp_step (by rfl) (fun K' hK => ?_)
            have HKk := Lib.hid hK
            clear hK
            go_simp
            exact HKk.out _ _ ⟨_, _, _, _, _, _, _, _, _, rfl, Or.inl ⟨HNm.out, HF.out⟩⟩
          | 2, _, h0, hall =>
            have hno : ¬ On l 9 := fun z => off_of h0 (hcl 9 (z) 2 (by decide +kernel))
            obtain ⟨hnm, F⟩ := hF.resolve_right (fun z => hno z.1)
            have HNm : Hid (¬ On (l.setIfInBounds 2 true) 9) := fun z => hnm (((on_set h0 9).1 z).resolve_left (by decide))
            clear hF hnm hno
            obtain rfl : v1 = .pointer (some ⟨wr.heap.size, 11, none⟩) := F.f 1 (hall 1 (by decide +kernel))
            have hxx := HM4.out.below F.bel
            have q11 := hxx.cell 11
            simp only [List.getElem?_toArray, List.getElem?_cons_zero, List.getElem?_cons_succ] at q11
            clear hxx
            have HF := Lib.hid (F.step FT.mono h0 (show 2 < 9 by decide) (Below.refl _ _) (x := .slice a3 s.body.length c3) rfl)
            clear F hall h0 hcl
            refine wpOp_step (by rfl) (fun K' hK => ?_)
            have HKk := Lib.hid hK
            clear hK
            go_simp
            exact HKk.out _ _ ⟨_, _, _, _, _, _, _, _, _, rfl, Or.inl ⟨HNm.out, HF.out⟩⟩
          | 3, _, h0, hall =>
            have hno : ¬ On l 9 := fun z => off_of h0 (hcl 9 (z) 3 (by decide +kernel))
            obtain ⟨hnm, F⟩ := hF.resolve_right (fun z => hno z.1)
            have HNm : Hid (¬ On (l.setIfInBounds 3 true) 9) := fun z => hnm (((on_set h0 9).1 z).resolve_left (by decide))
            clear hF hnm hno
            obtain rfl : v2 = .slice a3 s.body.length c3 := F.f 2 (hall 2 (by decide +kernel))
            have HC := Lib.hid (HBody.out w' (below_2 HB4.out F.bel))
            have HF := Lib.hid (fun w'' hb x hx => F.step FT.mono h0 (show 3 < 9 by decide) (w' := w'') hb (x := x) hx)
            clear F hall h0 hcl
            refine wpOp_step (by rfl) (fun K' hK => ?_)
            have HKk := Lib.hid hK
            clear hK
            go_simp
            go_at_call 34
            refine HC.out.mono ?_; rintro e' w5 ⟨rfl, hb5⟩
            have HF5 := Lib.hid (HF.out w5 hb5 (ctV X1) rfl)
            exact HKk.out _ _ ⟨_, _, _, _, _, _, _, _, _, rfl, Or.inl ⟨HNm.out, HF5.out⟩⟩
          | 4, _, h0, hall =>
            have hno : ¬ On l 9 := fun z => off_of h0 (hcl 9 (z) 4 (by decide +kernel))
            obtain ⟨hnm, F⟩ := hF.resolve_right (fun z => hno z.1)
            have HNm : Hid (¬ On (l.setIfInBounds 4 true) 9) := fun z => hnm (((on_set h0 9).1 z).resolve_left (by decide))
            clear hF hnm hno
            have HF := Lib.hid (F.step FT.mono h0 (show 4 < 9 by decide) (Below.refl _ _) (x := .pointer (some ⟨wr.heap.size, 12, none⟩)) rfl)
            clear F hall h0 hcl
            refine wpOp_step (by rfl) (fun K' hK => ?_)
            have HKk := Lib.hid hK
            clear hK
            go_simp
            exact HKk.out _ _ ⟨_, _, _, _, _, _, _, _, _, rfl, Or.inl ⟨HNm.out, HF.out⟩⟩
          | 5, _, h0, hall =>
            have hno : ¬ On l 9 := fun z => off_of h0 (hcl 9 (z) 5 (by decide +kernel))
            obtain ⟨hnm, F⟩ := hF.resolve_right (fun z => hno z.1)
            have HNm : Hid (¬ On (l.setIfInBounds 5 true) 9) := fun z => hnm (((on_set h0 9).1 z).resolve_left (by decide))
            clear hF hnm hno
            obtain rfl : v4 = .pointer (some ⟨wr.heap.size, 12, none⟩) := F.f 4 (hall 4 (by decide +kernel))
            have hxx := HM4.out.below F.bel
            have q12 := hxx.cell 12
            simp only [List.getElem?_toArray, List.getElem?_cons_zero, List.getElem?_cons_succ] at q12
            clear hxx
            have HF := Lib.hid (F.step FT.mono h0 (show 5 < 9 by decide) (Below.refl _ _) (x := .slice a4 s.els.length c4) rfl)
            clear F hall h0 hcl
            refine wpOp_step (by rfl) (fun K' hK => ?_)
            have HKk := Lib.hid hK
            clear hK
            go_simp
            exact HKk.out _ _ ⟨_, _, _, _, _, _, _, _, _, rfl, Or.inl ⟨HNm.out, HF.out⟩⟩
          | 6, _, h0, hall =>
            have hno : ¬ On l 9 := fun z => off_of h0 (hcl 9 (z) 6 (by decide +kernel))
            obtain ⟨hnm, F⟩ := hF.resolve_right (fun z => hno z.1)
            have HNm : Hid (¬ On (l.setIfInBounds 6 true) 9) := fun z => hnm (((on_set h0 9).1 z).resolve_left (by decide))
            clear hF hnm hno
            obtain rfl : v5 = .slice a4 s.els.length c4 := F.f 5 (hall 5 (by decide +kernel))
            have HC := Lib.hid (HEls.out w' (below_2 HB4.out F.bel))
            have HF := Lib.hid (fun w'' hb x hx => F.step FT.mono h0 (show 6 < 9 by decide) (w' := w'') hb (x := x) hx)
            clear F hall h0 hcl
            refine wpOp_step (by rfl) (fun K' hK => ?_)
            have HKk := Lib.hid hK
            clear hK
            go_simp
            go_at_call 34
            refine HC.out.mono ?_; rintro e' w5 ⟨rfl, hb5⟩
            have HF5 := Lib.hid (HF.out w5 hb5 (ctV X2) rfl)
            exact HKk.out _ _ ⟨_, _, _, _, _, _, _, _, _, rfl, Or.inl ⟨HNm.out, HF5.out⟩⟩
          | 7, _, h0, hall =>
            have hno : ¬ On l 9 := fun z => off_of h0 (hcl 9 (z) 7 (by decide +kernel))
            obtain ⟨hnm, F⟩ := hF.resolve_right (fun z => hno z.1)
            have HNm : Hid (¬ On (l.setIfInBounds 7 true) 9) := fun z => hnm (((on_set h0 9).1 z).resolve_left (by decide))
            clear hF hnm hno
            obtain rfl : v3 = ctV X1 := F.f 3 (hall 3 (by decide +kernel))
            obtain rfl : v6 = ctV X2 := F.f 6 (hall 6 (by decide +kernel))
            have HC := Lib.hid (HG5.out w')
            have HF := Lib.hid (fun w'' hb x hx => F.step FT.mono h0 (show 7 < 9 by decide) (w' := w'') hb (x := x) hx)
            clear F hall h0 hcl
            refine wpOp_step (by rfl) (fun K' hK => ?_)
            have HKk := Lib.hid hK
            clear hK
            go_simp
            go_at_call 59
            refine HC.out.mono ?_; rintro e' w5 ⟨rfl, hb5⟩
            have HF5 := Lib.hid (HF.out w5 hb5 (ctV MM) rfl)
            exact HKk.out _ _ ⟨_, _, _, _, _, _, _, _, _, rfl, Or.inl ⟨HNm.out, HF5.out⟩⟩
          | 8, _, h0, hall =>
            have hno : ¬ On l 9 := fun z => off_of h0 (hcl 9 (z) 8 (by decide +kernel))
            obtain ⟨hnm, F⟩ := hF.resolve_right (fun z => hno z.1)
            have HNm : Hid (¬ On (l.setIfInBounds 8 true) 9) := fun z => hnm (((on_set h0 9).1 z).resolve_left (by decide))
            clear hF hnm hno
            obtain rfl : v0 = .agg #[.int .i64 (O.s : Int), .int .i64 (O.g : Int), .int .i64 (O.u : Int), .int .i64 (O.m : Int)] := F.f 0 (hall 0 (by decide +kernel))
            obtain rfl : v7 = ctV MM := F.f 7 (hall 7 (by decide +kernel))
            have HC := Lib.hid (HP5.out w')
            have HF := Lib.hid (fun w'' hb x hx => F.step FT.mono h0 (show 8 < 9 by decide) (w' := w'') hb (x := x) hx)
            clear F hall h0 hcl
            refine wpOp_step (by rfl) (fun K' hK => ?_)
            have HKk := Lib.hid hK
            clear hK
            go_simp
            go_at_call 58
            refine HC.out.mono ?_; rintro e' w5 ⟨rfl, hb5⟩
            have HF5 := Lib.hid (HF.out w5 hb5 (.agg #[.int .i64 (Y.s : Int), .int .i64 (Y.g : Int), .int .i64 (Y.u : Int), .int .i64 (Y.m : Int)]) rfl)
            exact HKk.out _ _ ⟨_, _, _, _, _, _, _, _, _, rfl, Or.inl ⟨HNm.out, HF5.out⟩⟩
          | 9, _, h0, hall =>
            obtain ⟨hnm, F⟩ := hF.resolve_right (fun z => off_of h0 z.1)
            obtain rfl : v8 = .agg #[.int .i64 (Y.s : Int), .int .i64 (Y.g : Int), .int .i64 (Y.u : Int), .int .i64 (Y.m : Int)] := F.f 8 (hall 8 (by decide +kernel))
            have hZZ := HO4.out.below F.bel
            obtain ⟨q0, q1, q2, q3, q4, q5, q6, q7⟩ := four_open (hZZ)
            have HFin : Hid (On (l.setIfInBounds 9 true) 9 ∧ Bx ((((w'.setCell ⟨w3.heap.size, 0, none⟩ (.int .i64 (Y.s : Int))).setCell ⟨w3.heap.size, 1, none⟩ (.int .i64 (Y.g : Int))).setCell ⟨w3.heap.size, 2, none⟩ (.int .i64 (Y.u : Int))).setCell ⟨w3.heap.size, 3, none⟩ (.int .i64 (Y.m : Int))) (w3.heap.size) #[.int .i64 (Y.s : Int), .int .i64 (Y.g : Int), .int .i64 (Y.u : Int), .int .i64 (Y.m : Int)] 34 ∧ Below (w3.heap.size) V4 ((((w'.setCell ⟨w3.heap.size, 0, none⟩ (.int .i64 (Y.s : Int))).setCell ⟨w3.heap.size, 1, none⟩ (.int .i64 (Y.g : Int))).setCell ⟨w3.heap.size, 2, none⟩ (.int .i64 (Y.u : Int))).setCell ⟨w3.heap.size, 3, none⟩ (.int .i64 (Y.m : Int)))) := ⟨(on_set h0 9).2 (Or.inl rfl), four_set hZZ _ _ _ _, four_below (F.bel.mono (by have h := HS4.out; omega)) (Nat.le_refl _) _ _ _ _⟩
            clear hall h0 hcl F hF hnm
            clear hZZ
            refine wpOp_step (by rfl) (fun K' hK => ?_)
            have HKk := Lib.hid hK
            clear hK
            go_simp
            exact HKk.out _ _ ⟨_, _, _, _, _, _, _, _, _, rfl, Or.inr HFin.out⟩
          | i + 10, hi, _, _ => exact absurd hi (by show ¬ (i + 10 < 10); omega)
        rintro l9 a wz ⟨t0, t1, t2, t3, t4, t5, t6, t7, t8, rfl, hF⟩ hall
        obtain ⟨_, hZ, hBl⟩ := hF.resolve_left (fun z => z.1 (hall 9 (by decide)))
        clear hF hall
        have hsz4 := HS4.out
        have hsv := HSV.out
        have hs3 := HS3.out
        have HMz := Lib.hid (HM4.out.keep (hBl.block wr.heap.size hs3))
        have HAz := Lib.hid (HA4.out.keep (hBl.block (w.heap.size + 1) (by omega)))
        have HYz := Lib.hid hZ
        have HBz : Hid (Below (w.heap.size + 1) W2 wz) := HB4W.out.trans (hBl.mono (by omega))
        clear hZ hBl hsz4 hsv hs3
        have HPl : Hid (∀ w', Calls Tryz.prog 58 #[.agg #[.int .i64 (X.s : Int), .int .i64 (X.g : Int), .int .i64 (X.u : Int), .int .i64 (X.m : Int)], .agg #[.int .i64 (Y.s : Int), .int .i64 (Y.g : Int), .int .i64 (Y.u : Int), .int .i64 (Y.m : Int)]] w' fun e w'' => e = .returned (ctV (Ct.add X Y).cut) ∧ Below w'.heap.size w' w'') := fun w' => rplus_any X Y (by rw [HX.out]; exact Bd.mono (Bd.cut _) (by decide)) (by rw [← HY.out]; exact Bd.mono (Bd.cut _) (by decide)) w'
        obtain ⟨Z, hZ⟩ : ∃ Z, (Ct.add X Y).cut = Z := ⟨_, rfl⟩
        have HZ : Hid (Z = (exB (l.take (k + 1))).cut) := by
          show _ = _
          rw [← hZ, HYk.out, HX.out]
          rw [← HY.out, Ct.cut_add]
        rw [hZ] at HPl
        unfold ctV at HPl
        clear hZ
        obtain ⟨k0, k1, k2, k3, k4, k5, k6, k7⟩ := four_open HAz.out
        obtain ⟨j0, j1, j2, j3, j4, j5, j6, j7⟩ := four_open HYz.out
        have rr0 := HMz.out.cell 0
        simp only [List.getElem?_toArray, List.getElem?_cons_zero] at rr0
        rw [H5.out] at rr0
        go_wp2_with fail
        refine (HPl.out _).mono ?_; rintro e' w9 ⟨rfl, hb9⟩
        have ha9 := HAz.out.below hb9
        have HB9 : Hid (Below (w.heap.size + 1) W2 w9) := HBz.out.trans (hb9.mono (by have h1 := HAz.out.lt; omega))
        have HA9 := Lib.hid ha9
        clear hb9 k0 k1 k2 k3 k4 k5 k6 k7 j0 j1 j2 j3 j4 j5 j6 j7 rr0
        obtain ⟨k0, k1, k2, k3, k4, k5, k6, k7⟩ := four_open ha9
        clear ha9
        go_wp2_with fail
        go_roundw
        case rel => exact ⟨k + 1, Z, by omega, by go_num, HZ.out, four_set HA9.out (.int .i64 (Z.s : Int)) (.int .i64 (Z.g : Int)) (.int .i64 (Z.u : Int)) (.int .i64 (Z.m : Int)), four_below HB9.out (Nat.le_refl _) (.int .i64 (Z.s : Int)) (.int .i64 (Z.g : Int)) (.int .i64 (Z.u : Int)) (.int .i64 (Z.m : Int))⟩
        case measure => simp [intOf]; omega
      by_cases h6 : s.op = 6
      · obtain ⟨hmx1, hmx2⟩ := HMx.out h6
        obtain ⟨mk, hmk⟩ : ∃ k, s.mx.toNat = k := ⟨_, rfl⟩
        have HMk : Hid (s.mx = (mk : Int)) := by show _ = _; omega
        have hmk16 : mk ≤ 16 := by omega
        have hE : Ct.add O (Ct.mul mk ((exB s.body).add Ct.one)) = exS s := by rw [HPt.out, if_neg h5, if_pos h6, hmk]
        have hEY : (Ct.add (Ct.add O (Ct.mul mk (exB s.body).cut).cut).cut ⟨mk, 0, 0, 0⟩).cut = (exS s).cut := by
          rw [Ct.cut_addl, Ct.add_assoc, ← Ct.cut_addr, ← Ct.cut_addl (Ct.mul mk (exB s.body).cut).cut, Ct.cut_cut, Ct.cut_mul, Ct.cut_addl, mul_one_add, Ct.cut_addr, hE]
        have HT6 : Hid (∀ w', Calls Tryz.prog 60 #[.int .i64 (mk : Int), ctV (exB s.body).cut] w' fun e w'' => e = .returned (ctV (Ct.mul mk (exB s.body).cut).cut) ∧ Below w'.heap.size w' w'') := fun w' => rtimes_any _ mk (Bd.mono (Bd.cut _) (by decide)) (by omega) w'
        have HP6 : Hid (∀ w', Calls Tryz.prog 58 #[.agg #[.int .i64 (O.s : Int), .int .i64 (O.g : Int), .int .i64 (O.u : Int), .int .i64 (O.m : Int)], ctV (Ct.mul mk (exB s.body).cut).cut] w' fun e w'' => e = .returned (ctV (Ct.add O (Ct.mul mk (exB s.body).cut).cut).cut) ∧ Below w'.heap.size w' w'') := fun w' => rplus_any O _ (HOb.out.mono (by decide)) (Bd.mono (Bd.cut _) (by decide)) w'
        have hP7 : ∀ w', Calls Tryz.prog 58 #[ctV (Ct.add O (Ct.mul mk (exB s.body).cut).cut).cut, .agg #[.int .i64 (mk : Int), .int .i64 0, .int .i64 0, .int .i64 0]] w' fun e w'' => e = .returned (ctV (Ct.add (Ct.add O (Ct.mul mk (exB s.body).cut).cut).cut ⟨mk, 0, 0, 0⟩).cut) ∧ Below w'.heap.size w' w'' := fun w' => rplus_any _ ⟨mk, 0, 0, 0⟩ (Bd.mono (Bd.cut _) (by decide)) ⟨by show mk ≤ _; omega, Nat.zero_le _, Nat.zero_le _, Nat.zero_le _⟩ w'
        rw [hEY] at hP7
        obtain ⟨Y, hY⟩ : ∃ Y, (exS s).cut = Y := ⟨_, rfl⟩
        rw [hY] at hP7
        have HY := Lib.hid hY
        generalize (Ct.add O (Ct.mul mk (exB s.body).cut).cut).cut = P1 at HP6 hP7
        have HP7 : Hid (∀ w', Calls Tryz.prog 58 #[ctV P1, .agg #[.int .i64 (mk : Int), .int .i64 0, .int .i64 0, .int .i64 0]] w' fun e w'' => e = .returned (.agg #[.int .i64 (Y.s : Int), .int .i64 (Y.g : Int), .int .i64 (Y.u : Int), .int .i64 (Y.m : Int)]) ∧ Below w'.heap.size w' w'') := hP7
        clear hE hEY hP7 hY hmx1 hmx2 hmk
        generalize (Ct.mul mk (exB s.body).cut).cut = MM at HT6 HP6
        generalize (exB s.body).cut = X1 at HT6 HBody
        have b5 : (s.op == 5) = false := beq_eq_false_iff_ne.2 h5
        rw [h6] at r0
        have H6 := Lib.hid h6
        clear h5 h6 b5
        go_upto_region 10 with fail
        clear r0
        refine wp_region_inv2 rfl (fun l a w' => ∃ v0 v1 v2 v3 v4 v5 v6 v7 v8 v9 v10 v11 : Value, a = { tmps := #[Value.slice (some { block := b2, off := i2 }) g c, undef, Value.pointer (some { block := w.heap.size, off := 0 }), Value.pointer (some { block := w.heap.size + 1, off := 0 }), Value.int IntKind.i64 ↑k, Value.pointer (some { block := wr.heap.size, off := 0 }), Value.pointer (some { block := w3.heap.size, off := 0 }), Value.agg #[Value.int IntKind.i64 0, Value.int IntKind.i64 0, Value.int IntKind.i64 0, Value.int IntKind.i64 0], Value.int IntKind.i64 ↑k, Value.slice (some { block := b2, off := i2 }) g c, Value.int IntKind.i64 ↑g, Value.bool true, u12, u13, Value.slice (some { block := b2, off := i2 }) g c, Value.int IntKind.i64 ↑k, Value.pointer (some { block := b2, off := i2 + k * 13 }), Value.agg #[Value.int IntKind.i64 s.op, Value.string s.name, Value.int IntKind.i64 s.mx, Value.int IntKind.i64 s.a.op, Value.int IntKind.i64 s.a.n, Value.string s.a.s, Value.slice a1 s.a.args.length c1, Value.int IntKind.i64 s.b.op, Value.int IntKind.i64 s.b.n, Value.string s.b.s, Value.slice a2 s.b.args.length c2, Value.slice a3 s.body.length c3, Value.slice a4 s.els.length c4], Value.agg #[Value.int IntKind.i64 s.op, Value.string s.name, Value.int IntKind.i64 s.mx, Value.int IntKind.i64 s.a.op, Value.int IntKind.i64 s.a.n, Value.string s.a.s, Value.slice a1 s.a.args.length c1, Value.int IntKind.i64 s.b.op, Value.int IntKind.i64 s.b.n, Value.string s.b.s, Value.slice a2 s.b.args.length c2, Value.slice a3 s.body.length c3, Value.slice a4 s.els.length c4], Value.agg #[Value.int IntKind.i64 ↑O.s, Value.int IntKind.i64 ↑O.g, Value.int IntKind.i64 ↑O.u, Value.int IntKind.i64 ↑O.m], Value.pointer (some { block := wr.heap.size, off := 0 }), Value.int IntKind.i64 6, Value.bool false, u23, u24, u25, u26, u27, u28, u29, u30, u31, Value.pointer (some { block := wr.heap.size, off := 0 }), Value.int IntKind.i64 6, Value.bool true, v0, v1, v2, v3, v4, v5, v6, v7, v8, v9, v10, v11, u47, u48, u49, undef], defers := [] } ∧ ((¬ On l 12 ∧ IS (FT [some (.agg #[.int .i64 (O.s : Int), .int .i64 (O.g : Int), .int .i64 (O.u : Int), .int .i64 (O.m : Int)]), some (.pointer (some ⟨wr.heap.size, 2, none⟩)), some (.int .i64 (mk : Int)), some (.pointer (some ⟨wr.heap.size, 11, none⟩)), some (.slice a3 s.body.length c3), some (ctV X1), some (ctV MM), some (ctV P1), some (.pointer (some ⟨wr.heap.size, 2, none⟩)), some (.int .i64 (mk : Int)), some (.agg #[.int .i64 (mk : Int), .int .i64 0, .int .i64 0, .int .i64 0]), some (.agg #[.int .i64 (Y.s : Int), .int .i64 (Y.g : Int), .int .i64 (Y.u : Int), .int .i64 (Y.m : Int)])] 34 #[.int .i64 0, .int .i64 0, .int .i64 0, .int .i64 0] (0)) V4 l w' [v0, v1, v2, v3, v4, v5, v6, v7, v8, v9, v10, v11]) ∨ (On l 12 ∧ Bx w' (w3.heap.size) #[.int .i64 (Y.s : Int), .int .i64 (Y.g : Int), .int .i64 (Y.u : Int), .int .i64 (Y.m : Int)] 34 ∧ Below (w3.heap.size) V4 w'))) (by kernel_rfl) ?_ ?_ ?_
        · intro l hl
          exact ⟨_, _, _, _, _, _, _, _, _, _, _, _, rfl, Or.inl ⟨hl 12, IS.start _ _ hl _⟩⟩
        · rintro l a w' ⟨v0, v1, v2, v3, v4, v5, v6, v7, v8, v9, v10, v11, rfl, hF⟩ hcl i hi h0 hall
          match i, hi, h0, hall with
          | 0, _, h0, hall =>
            have hno : ¬ On l 12 := fun z => off_of h0 (hcl 12 (z) 0 (by decide +kernel))
            obtain ⟨hnm, F⟩ := hF.resolve_right (fun z => hno z.1)
            have HNm : Hid (¬ On (l.setIfInBounds 0 true) 12) := fun z => hnm (((on_set h0 12).1 z).resolve_left (by decide))
            clear hF hnm hno
            obtain ⟨q0, q1, q2, q3, q4, q5, q6, q7⟩ := four_open (HO4.out.below F.bel)
            have HF := Lib.hid (F.step FT.mono h0 (show 0 < 12 by decide) (Below.refl _ _) (x := .agg #[.int .i64 (O.s : Int), .int .i64 (O.g : Int), .int .i64 (O.u : Int), .int .i64 (O.m : Int)]) rfl)
            clear F hall h0 hcl
            refine wpOp_step (by rfl) (fun K' hK => ?_)
            have HKk := Lib.hid hK
            clear hK
            go_simp
            exact HKk.out _ _ ⟨_, _, _, _, _, _, _, _, _, _, _, _, rfl, Or.inl ⟨HNm.out, HF.out⟩⟩
          | 1, _, h0, hall =>
            have hno : ¬ On l 12 := fun z => off_of h0 (hcl 12 (z) 1 (by decide +kernel))
            obtain ⟨hnm, F⟩ := hF.resolve_right (fun z => hno z.1)
            have HNm : Hid (¬ On (l.setIfInBounds 1 true) 12) := fun z => hnm (((on_set h0 12).1 z).resolve_left (by decide))
            clear hF hnm hno
            have HF := Lib.hid (F.step FT.mono h0 (show 1 < 12 by decide) (Below.refl _ _) (x := .pointer (some ⟨wr.heap.size, 2, none⟩)) rfl)
            clear F hall h0 hcl
            refine wpOp_step (by rfl) (fun K' hK => ?_)
            have HKk := Lib.hid hK
            clear hK
            go_simp
            exact HKk.out _ _ ⟨_, _, _, _, _, _, _, _, _, _, _, _, rfl, Or.inl ⟨HNm.out, HF.out⟩⟩
          | 2, _, h0, hall =>
            have hno : ¬ On l 12 := fun z => off_of h0 (hcl 12 (z) 2 (by decide +kernel))
            obtain ⟨hnm, F⟩ := hF.resolve_right (fun z => hno z.1)
            have HNm : Hid (¬ On (l.setIfInBounds 2 true) 12) := fun z => hnm (((on_set h0 12).1 z).resolve_left (by decide))
            clear hF hnm hno
            obtain rfl : v1 = .pointer (some ⟨wr.heap.size, 2, none⟩) := F.f 1 (hall 1 (by decide +kernel))
            have hxx := HM4.out.below F.bel
            have q2 := hxx.cell 2
            simp only [List.getElem?_toArray, List.getElem?_cons_zero, List.getElem?_cons_succ] at q2
            clear hxx
            rw [HMk.out] at q2
            have HF := Lib.hid (F.step FT.mono h0 (show 2 < 12 by decide) (Below.refl _ _) (x := .int .i64 (mk : Int)) rfl)
            clear F hall h0 hcl
            refine wpOp_step (by rfl) (fun K' hK => ?_)
            have HKk := Lib.hid hK
            clear hK
            go_simp
            exact HKk.out _ _ ⟨_, _, _, _, _, _, _, _, _, _, _, _, rfl, Or.inl ⟨HNm.out, HF.out⟩⟩
          | 3, _, h0, hall =>
            have hno : ¬ On l 12 := fun z => off_of h0 (hcl 12 (z) 3 (by decide +kernel))
            obtain ⟨hnm, F⟩ := hF.resolve_right (fun z => hno z.1)
            have HNm : Hid (¬ On (l.setIfInBounds 3 true) 12) := fun z => hnm (((on_set h0 12).1 z).resolve_left (by decide))
            clear hF hnm hno
            have HF := Lib.hid (F.step FT.mono h0 (show 3 < 12 by decide) (Below.refl _ _) (x := .pointer (some ⟨wr.heap.size, 11, none⟩)) rfl)
            clear F hall h0 hcl
            refine wpOp_step (by rfl) (fun K' hK => ?_)
            have HKk := Lib.hid hK
            clear hK
            go_simp
            exact HKk.out _ _ ⟨_, _, _, _, _, _, _, _, _, _, _, _, rfl, Or.inl ⟨HNm.out, HF.out⟩⟩
          | 4, _, h0, hall =>
            have hno : ¬ On l 12 := fun z => off_of h0 (hcl 12 (z) 4 (by decide +kernel))
            obtain ⟨hnm, F⟩ := hF.resolve_right (fun z => hno z.1)
            have HNm : Hid (¬ On (l.setIfInBounds 4 true) 12) := fun z => hnm (((on_set h0 12).1 z).resolve_left (by decide))
            clear hF hnm hno
            obtain rfl : v3 = .pointer (some ⟨wr.heap.size, 11, none⟩) := F.f 3 (hall 3 (by decide +kernel))
            have hxx := HM4.out.below F.bel
            have q11 := hxx.cell 11
            simp only [List.getElem?_toArray, List.getElem?_cons_zero, List.getElem?_cons_succ] at q11
            clear hxx
            have HF := Lib.hid (F.step FT.mono h0 (show 4 < 12 by decide) (Below.refl _ _) (x := .slice a3 s.body.length c3) rfl)
            clear F hall h0 hcl
            refine wpOp_step (by rfl) (fun K' hK => ?_)
            have HKk := Lib.hid hK
            clear hK
            go_simp
            exact HKk.out _ _ ⟨_, _, _, _, _, _, _, _, _, _, _, _, rfl, Or.inl ⟨HNm.out, HF.out⟩⟩
          | 5, _, h0, hall =>
            have hno : ¬ On l 12 := fun z => off_of h0 (hcl 12 (z) 5 (by decide +kernel))
            obtain ⟨hnm, F⟩ := hF.resolve_right (fun z => hno z.1)
            have HNm : Hid (¬ On (l.setIfInBounds 5 true) 12) := fun z => hnm (((on_set h0 12).1 z).resolve_left (by decide))
            clear hF hnm hno
            obtain rfl : v4 = .slice a3 s.body.length c3 := F.f 4 (hall 4 (by decide +kernel))
            have HC := Lib.hid (HBody.out w' (below_2 HB4.out F.bel))
            have HF := Lib.hid (fun w'' hb x hx => F.step FT.mono h0 (show 5 < 12 by decide) (w' := w'') hb (x := x) hx)
            clear F hall h0 hcl
            refine wpOp_step (by rfl) (fun K' hK => ?_)
            have HKk := Lib.hid hK
            clear hK
            go_simp
            go_at_call 34
            refine HC.out.mono ?_; rintro e' w5 ⟨rfl, hb5⟩
            have HF5 := Lib.hid (HF.out w5 hb5 (ctV X1) rfl)
            exact HKk.out _ _ ⟨_, _, _, _, _, _, _, _, _, _, _, _, rfl, Or.inl ⟨HNm.out, HF5.out⟩⟩
          | 6, _, h0, hall =>
            have hno : ¬ On l 12 := fun z => off_of h0 (hcl 12 (z) 6 (by decide +kernel))
            obtain ⟨hnm, F⟩ := hF.resolve_right (fun z => hno z.1)
            have HNm : Hid (¬ On (l.setIfInBounds 6 true) 12) := fun z => hnm (((on_set h0 12).1 z).resolve_left (by decide))
            clear hF hnm hno
            obtain rfl : v2 = .int .i64 (mk : Int) := F.f 2 (hall 2 (by decide +kernel))
            obtain rfl : v5 = ctV X1 := F.f 5 (hall 5 (by decide +kernel))
            have HC := Lib.hid (HT6.out w')
            have HF := Lib.hid (fun w'' hb x hx => F.step FT.mono h0 (show 6 < 12 by decide) (w' := w'') hb (x := x) hx)
            clear F hall h0 hcl
            refine wpOp_step (by rfl) (fun K' hK => ?_)
            have HKk := Lib.hid hK
            clear hK
            go_simp
            go_at_call 60
            refine HC.out.mono ?_; rintro e' w5 ⟨rfl, hb5⟩
            have HF5 := Lib.hid (HF.out w5 hb5 (ctV MM) rfl)
            exact HKk.out _ _ ⟨_, _, _, _, _, _, _, _, _, _, _, _, rfl, Or.inl ⟨HNm.out, HF5.out⟩⟩
          | 7, _, h0, hall =>
            have hno : ¬ On l 12 := fun z => off_of h0 (hcl 12 (z) 7 (by decide +kernel))
            obtain ⟨hnm, F⟩ := hF.resolve_right (fun z => hno z.1)
            have HNm : Hid (¬ On (l.setIfInBounds 7 true) 12) := fun z => hnm (((on_set h0 12).1 z).resolve_left (by decide))
            clear hF hnm hno
            obtain rfl : v0 = .agg #[.int .i64 (O.s : Int), .int .i64 (O.g : Int), .int .i64 (O.u : Int), .int .i64 (O.m : Int)] := F.f 0 (hall 0 (by decide +kernel))
            obtain rfl : v6 = ctV MM := F.f 6 (hall 6 (by decide +kernel))
            have HC := Lib.hid (HP6.out w')
            have HF := Lib.hid (fun w'' hb x hx => F.step FT.mono h0 (show 7 < 12 by decide) (w' := w'') hb (x := x) hx)
            clear F hall h0 hcl
            refine wpOp_step (by rfl) (fun K' hK => ?_)
            have HKk := Lib.hid hK
            clear hK
            go_simp
            go_at_call 58
            refine HC.out.mono ?_; rintro e' w5 ⟨rfl, hb5⟩
            have HF5 := Lib.hid (HF.out w5 hb5 (ctV P1) rfl)
            exact HKk.out _ _ ⟨_, _, _, _, _, _, _, _, _, _, _, _, rfl, Or.inl ⟨HNm.out, HF5.out⟩⟩
          | 8, _, h0, hall =>
            have hno : ¬ On l 12 := fun z => off_of h0 (hcl 12 (z) 8 (by decide +kernel))
            obtain ⟨hnm, F⟩ := hF.resolve_right (fun z => hno z.1)
            have HNm : Hid (¬ On (l.setIfInBounds 8 true) 12) := fun z => hnm (((on_set h0 12).1 z).resolve_left (by decide))
            clear hF hnm hno
            have HF := Lib.hid (F.step FT.mono h0 (show 8 < 12 by decide) (Below.refl _ _) (x := .pointer (some ⟨wr.heap.size, 2, none⟩)) rfl)
            clear F hall h0 hcl
            refine wpOp_step (by rfl) (fun K' hK => ?_)
            have HKk := Lib.hid hK
            clear hK
            go_simp
            exact HKk.out _ _ ⟨_, _, _, _, _, _, _, _, _, _, _, _, rfl, Or.inl ⟨HNm.out, HF.out⟩⟩
          | 9, _, h0, hall =>
            have hno : ¬ On l 12 := fun z => off_of h0 (hcl 12 (z) 9 (by decide +kernel))
            obtain ⟨hnm, F⟩ := hF.resolve_right (fun z => hno z.1)
            have HNm : Hid (¬ On (l.setIfInBounds 9 true) 12) := fun z => hnm (((on_set h0 12).1 z).resolve_left (by decide))
            clear hF hnm hno
            obtain rfl : v8 = .pointer (some ⟨wr.heap.size, 2, none⟩) := F.f 8 (hall 8 (by decide +kernel))
            have hxx := HM4.out.below F.bel
            have q2 := hxx.cell 2
            simp only [List.getElem?_toArray, List.getElem?_cons_zero, List.getElem?_cons_succ] at q2
            clear hxx
            rw [HMk.out] at q2
            have HF := Lib.hid (F.step FT.mono h0 (show 9 < 12 by decide) (Below.refl _ _) (x := .int .i64 (mk : Int)) rfl)
            clear F hall h0 hcl
            refine wpOp_step (by rfl) (fun K' hK => ?_)
            have HKk := Lib.hid hK
            clear hK
            go_simp
            exact HKk.out _ _ ⟨_, _, _, _, _, _, _, _, _, _, _, _, rfl, Or.inl ⟨HNm.out, HF.out⟩⟩
          | 10, _, h0, hall =>
            have hno : ¬ On l 12 := fun z => off_of h0 (hcl 12 (z) 10 (by decide +kernel))
            obtain ⟨hnm, F⟩ := hF.resolve_right (fun z => hno z.1)
            have HNm : Hid (¬ On (l.setIfInBounds 10 true) 12) := fun z => hnm (((on_set h0 12).1 z).resolve_left (by decide))
            clear hF hnm hno
            obtain rfl : v9 = .int .i64 (mk : Int) := F.f 9 (hall 9 (by decide +kernel))
            have HF := Lib.hid (F.step FT.mono h0 (show 10 < 12 by decide) (Below.refl _ _) (x := .agg #[.int .i64 (mk : Int), .int .i64 0, .int .i64 0, .int .i64 0]) rfl)
            clear F hall h0 hcl
            refine wpOp_step (by rfl) (fun K' hK => ?_)
            have HKk := Lib.hid hK
            clear hK
            go_simp
            exact HKk.out _ _ ⟨_, _, _, _, _, _, _, _, _, _, _, _, rfl, Or.inl ⟨HNm.out, HF.out⟩⟩
          | 11, _, h0, hall =>
            have hno : ¬ On l 12 := fun z => off_of h0 (hcl 12 (z) 11 (by decide +kernel))
            obtain ⟨hnm, F⟩ := hF.resolve_right (fun z => hno z.1)
            have HNm : Hid (¬ On (l.setIfInBounds 11 true) 12) := fun z => hnm (((on_set h0 12).1 z).resolve_left (by decide))
            clear hF hnm hno
            obtain rfl : v7 = ctV P1 := F.f 7 (hall 7 (by decide +kernel))
            obtain rfl : v10 = .agg #[.int .i64 (mk : Int), .int .i64 0, .int .i64 0, .int .i64 0] := F.f 10 (hall 10 (by decide +kernel))
            have HC := Lib.hid (HP7.out w')
            have HF := Lib.hid (fun w'' hb x hx => F.step FT.mono h0 (show 11 < 12 by decide) (w' := w'') hb (x := x) hx)
            clear F hall h0 hcl
            refine wpOp_step (by rfl) (fun K' hK => ?_)
            have HKk := Lib.hid hK
            clear hK
            go_simp
            go_at_call 58
            refine HC.out.mono ?_; rintro e' w5 ⟨rfl, hb5⟩
            have HF5 := Lib.hid (HF.out w5 hb5 (.agg #[.int .i64 (Y.s : Int), .int .i64 (Y.g : Int), .int .i64 (Y.u : Int), .int .i64 (Y.m : Int)]) rfl)
            exact HKk.out _ _ ⟨_, _, _, _, _, _, _, _, _, _, _, _, rfl, Or.inl ⟨HNm.out, HF5.out⟩⟩
          | 12, _, h0, hall =>
            obtain ⟨hnm, F⟩ := hF.resolve_right (fun z => off_of h0 z.1)
            obtain rfl : v11 = .agg #[.int .i64 (Y.s : Int), .int .i64 (Y.g : Int), .int .i64 (Y.u : Int), .int .i64 (Y.m : Int)] := F.f 11 (hall 11 (by decide +kernel))
            have hZZ := HO4.out.below F.bel
            obtain ⟨q0, q1, q2, q3, q4, q5, q6, q7⟩ := four_open (hZZ)
            have HFin : Hid (On (l.setIfInBounds 12 true) 12 ∧ Bx ((((w'.setCell ⟨w3.heap.size, 0, none⟩ (.int .i64 (Y.s : Int))).setCell ⟨w3.heap.size, 1, none⟩ (.int .i64 (Y.g : Int))).setCell ⟨w3.heap.size, 2, none⟩ (.int .i64 (Y.u : Int))).setCell ⟨w3.heap.size, 3, none⟩ (.int .i64 (Y.m : Int))) (w3.heap.size) #[.int .i64 (Y.s : Int), .int .i64 (Y.g : Int), .int .i64 (Y.u : Int), .int .i64 (Y.m : Int)] 34 ∧ Below (w3.heap.size) V4 ((((w'.setCell ⟨w3.heap.size, 0, none⟩ (.int .i64 (Y.s : Int))).setCell ⟨w3.heap.size, 1, none⟩ (.int .i64 (Y.g : Int))).setCell ⟨w3.heap.size, 2, none⟩ (.int .i64 (Y.u : Int))).setCell ⟨w3.heap.size, 3, none⟩ (.int .i64 (Y.m : Int)))) := ⟨(on_set h0 12).2 (Or.inl rfl), four_set hZZ _ _ _ _, four_below (F.bel.mono (by have h := HS4.out; omega)) (Nat.le_refl _) _ _ _ _⟩
            clear hall h0 hcl F hF hnm
            clear hZZ
            refine wpOp_step (by rfl) (fun K' hK => ?_)
            have HKk := Lib.hid hK
            clear hK
            go_simp
            exact HKk.out _ _ ⟨_, _, _, _, _, _, _, _, _, _, _, _, rfl, Or.inr HFin.out⟩
          | i + 13, hi, _, _ => exact absurd hi (by show ¬ (i + 13 < 13); omega)
        rintro l9 a wz ⟨t0, t1, t2, t3, t4, t5, t6, t7, t8, t9, t10, t11, rfl, hF⟩ hall
        obtain ⟨_, hZ, hBl⟩ := hF.resolve_left (fun z => z.1 (hall 12 (by decide)))
        clear hF hall
        have hsz4 := HS4.out
        have hsv := HSV.out
        have hs3 := HS3.out
        have HMz := Lib.hid (HM4.out.keep (hBl.block wr.heap.size hs3))
        have HAz := Lib.hid (HA4.out.keep (hBl.block (w.heap.size + 1) (by omega)))
        have HYz := Lib.hid hZ
        have HBz : Hid (Below (w.heap.size + 1) W2 wz) := HB4W.out.trans (hBl.mono (by omega))
        clear hZ hBl hsz4 hsv hs3
        have HPl : Hid (∀ w', Calls Tryz.prog 58 #[.agg #[.int .i64 (X.s : Int), .int .i64 (X.g : Int), .int .i64 (X.u : Int), .int .i64 (X.m : Int)], .agg #[.int .i64 (Y.s : Int), .int .i64 (Y.g : Int), .int .i64 (Y.u : Int), .int .i64 (Y.m : Int)]] w' fun e w'' => e = .returned (ctV (Ct.add X Y).cut) ∧ Below w'.heap.size w' w'') := fun w' => rplus_any X Y (by rw [HX.out]; exact Bd.mono (Bd.cut _) (by decide)) (by rw [← HY.out]; exact Bd.mono (Bd.cut _) (by decide)) w'
        obtain ⟨Z, hZ⟩ : ∃ Z, (Ct.add X Y).cut = Z := ⟨_, rfl⟩
        have HZ : Hid (Z = (exB (l.take (k + 1))).cut) := by
          show _ = _
          rw [← hZ, HYk.out, HX.out]
          rw [← HY.out, Ct.cut_add]
        rw [hZ] at HPl
        unfold ctV at HPl
        clear hZ
        obtain ⟨k0, k1, k2, k3, k4, k5, k6, k7⟩ := four_open HAz.out
        obtain ⟨j0, j1, j2, j3, j4, j5, j6, j7⟩ := four_open HYz.out
        have rr0 := HMz.out.cell 0
        simp only [List.getElem?_toArray, List.getElem?_cons_zero] at rr0
        rw [H6.out] at rr0
        go_wp2_with fail
        refine (HPl.out _).mono ?_; rintro e' w9 ⟨rfl, hb9⟩
        have ha9 := HAz.out.below hb9
        have HB9 : Hid (Below (w.heap.size + 1) W2 w9) := HBz.out.trans (hb9.mono (by have h1 := HAz.out.lt; omega))
        have HA9 := Lib.hid ha9
        clear hb9 k0 k1 k2 k3 k4 k5 k6 k7 j0 j1 j2 j3 j4 j5 j6 j7 rr0
        obtain ⟨k0, k1, k2, k3, k4, k5, k6, k7⟩ := four_open ha9
        clear ha9
        go_wp2_with fail
        go_roundw
        case rel => exact ⟨k + 1, Z, by omega, by go_num, HZ.out, four_set HA9.out (.int .i64 (Z.s : Int)) (.int .i64 (Z.g : Int)) (.int .i64 (Z.u : Int)) (.int .i64 (Z.m : Int)), four_below HB9.out (Nat.le_refl _) (.int .i64 (Z.s : Int)) (.int .i64 (Z.g : Int)) (.int .i64 (Z.u : Int)) (.int .i64 (Z.m : Int))⟩
        case measure => simp [intOf]; omega
      have b5 : (s.op == 5) = false := beq_eq_false_iff_ne.2 h5
      have b6 : (s.op == 6) = false := beq_eq_false_iff_ne.2 h6
      have hEO : exS s = O := by rw [HPt.out, if_neg h5, if_neg h6, Ct.add_z]
      have HEO := Lib.hid hEO
      clear h5 h6 hEO r0
      have HPl : Hid (∀ w', Calls Tryz.prog 58 #[.agg #[.int .i64 (X.s : Int), .int .i64 (X.g : Int), .int .i64 (X.u : Int), .int .i64 (X.m : Int)], .agg #[.int .i64 (O.s : Int), .int .i64 (O.g : Int), .int .i64 (O.u : Int), .int .i64 (O.m : Int)]] w' fun e w'' => e = .returned (ctV (Ct.add X O).cut) ∧ Below w'.heap.size w' w'') := fun w' => rplus_any X O (by rw [HX.out]; exact Bd.mono (Bd.cut _) (by decide)) (HOb.out.mono (by decide)) w'
      obtain ⟨Z, hZ⟩ : ∃ Z, (Ct.add X O).cut = Z := ⟨_, rfl⟩
      have HZ : Hid (Z = (exB (l.take (k + 1))).cut) := by
        show _ = _
        rw [← hZ, HYk.out, HX.out]
        rw [HEO.out, Ct.cut_addl]
      rw [hZ] at HPl
      unfold ctV at HPl
      clear hZ
      obtain ⟨k0, k1, k2, k3, k4, k5, k6, k7⟩ := four_open HA4.out
      obtain ⟨j0, j1, j2, j3, j4, j5, j6, j7⟩ := four_open HO4.out
      have rr0 := HM4.out.cell 0
      simp only [List.getElem?_toArray, List.getElem?_cons_zero] at rr0
      go_wp2_with fail
      refine (HPl.out _).mono ?_; rintro e' w9 ⟨rfl, hb9⟩
      have ha9 := HA4.out.below hb9
      have HB9 : Hid (Below (w.heap.size + 1) W2 w9) := HB4W.out.trans (hb9.mono (by have h1 := HA4.out.lt; omega))
      have HA9 := Lib.hid ha9
      clear hb9 k0 k1 k2 k3 k4 k5 k6 k7 j0 j1 j2 j3 j4 j5 j6 j7 rr0
      obtain ⟨k0, k1, k2, k3, k4, k5, k6, k7⟩ := four_open ha9
      clear ha9
      go_wp2_with fail
      go_roundw
      case rel => exact ⟨k + 1, Z, by omega, by go_num, HZ.out, four_set HA9.out (.int .i64 (Z.s : Int)) (.int .i64 (Z.g : Int)) (.int .i64 (Z.u : Int)) (.int .i64 (Z.m : Int)), four_below HB9.out (Nat.le_refl _) (.int .i64 (Z.s : Int)) (.int .i64 (Z.g : Int)) (.int .i64 (Z.u : Int)) (.int .i64 (Z.m : Int))⟩
      case measure => simp [intOf]; omega
    · have hV : X = (exB l).cut := by rw [HX.out, List.take_of_length_le (by rw [HL.out]; omega)]
      have hrr := HR.out.keep (HBr.out.block w.heap.size (Nat.lt_succ_self _))
      obtain ⟨d0, d1, d2, d3, d4, d5, d6, d7⟩ := four_open hrr
      obtain ⟨e0, e1, e2, e3, e4, e5, e6, e7⟩ := four_open HA.out
      have hz := four_set hrr (.int .i64 (X.s : Int)) (.int .i64 (X.g : Int)) (.int .i64 (X.u : Int)) (.int .i64 (X.m : Int))
      have q0 := hz.cell 0
      have q1 := hz.cell 1
      have q2 := hz.cell 2
      have q3 := hz.cell 3
      simp only [List.getElem?_toArray, List.getElem?_cons_zero, List.getElem?_cons_succ] at q0 q1 q2 q3
      have HV := Lib.hid hV
      clear hz hrr hV
      go_wp2_with fail
      refine bodyPost_ret (v := .agg #[.int .i64 (X.s : Int), .int .i64 (X.g : Int), .int .i64 (X.u : Int), .int .i64 (X.m : Int)]) (by simp [results, Tryz.results34, go_sem, q0, q1, q2, q3]) rfl ?_
      rw [← HV.out]
      exact ⟨rfl, four_below HBw.out (Nat.le_refl _) _ _ _ _⟩
end Go.Proofs.YtkjefigebdbkaaaGreatDoor.Q
namespace Go.Proofs.YtkjefigebdbkaaaGreatDoor.Q
open Go.RowKit
open A (Ex St Pr Bx okB okS cE cB cS Bodies OkP PrIn prV prO)
open L (below_2 below_box ret_bool ret_int)

structure Ci where
  s : Int
  g : Int
  u : Int
  m : Int
def ciV (c : Ci) : Value := .agg #[.int .i64 c.s, .int .i64 c.g, .int .i64 c.u, .int .i64 c.m]
def Ci.of (c : Ct) : Ci := ⟨c.s, c.g, c.u, c.m⟩
def Ci.no : Ci := ⟨-1, -1, -1, -1⟩
def cst (p : Pr) : Ci := if N.checkN p ≠ 0 then Ci.no else Ci.of (exB p.body).cut
def costE (c : Ci) (e : Int) : Int := if e ≠ 0 then e else if 16384 < c.s then 13 else if 64 < c.g ∨ 64 < c.u ∨ 16 < c.m then 2 else 0
theorem chk_of {p : Pr} (h : N.checkN p = 0) : (Y.chk p).2 = 0 := by
  unfold N.checkN at h
  apply Decidable.byContradiction
  intro h0
  rw [if_pos h0] at h
  exact h0 h
theorem val_of {p : Pr} (h : N.checkN p = 0) : A.valE p = 0 := ((Y.chk_main p).2 (chk_of h)).val
theorem list_of {p : Pr} (h : N.checkN p = 0) (hok : OkP p) (a2 : Option Addr) (c2 : Nat) (w : World) (hK : Bodies w a2 p.body) :
    Calls Tryz.prog 61 #[.slice a2 p.body.length c2] w fun e' w' => e' = .returned (ctV (exB p.body).cut) ∧ Below w.heap.size w w' :=
  olist_any p.body a2 c2 w hok.bodyLen hok.body (go_val (val_of h)) (by have := N.val_cB (val_of h); omega) hK
set_option maxHeartbeats 8000000 in
set_option maxRecDepth 100000 in
theorem oproc_any (p : Pr) (a1 a2 : Option Addr) (c1 c2 : Nat) (hok : OkP p) (hc1 : p.params.length ≤ c1) (w : World) (ht : Y.Tb w) (hK : PrIn w p a1 a2) :
    Calls Tryz.prog 35 #[prV p a1 c1 a2 c2] w fun e' w' => e' = .returned (.tuple #[ciV (cst p), .int .i64 (N.checkN p)]) ∧ Below w.heap.size w w' := by
  obtain ⟨W1, e1⟩ : ∃ z, z = w.alloc (.cells #[.string p.name, .slice a1 p.params.length c1, .slice a2 p.body.length c2] 25) := ⟨_, rfl⟩
  have bb1 : Below w.heap.size w W1 := by rw [e1]; exact below_box _ _
  have xx1 := Bx.new w #[.string p.name, .slice a1 p.params.length c1, .slice a2 p.body.length c2] 25
  rw [← e1] at xx1
  have s1 : W1.heap.size = w.heap.size + 1 := by rw [e1]; simp
  obtain ⟨W2, e2⟩ : ∃ z, z = W1.alloc (.cells #[.int .i64 0, .int .i64 0, .int .i64 0, .int .i64 0] 57) := ⟨_, rfl⟩
  have bb2 : Below W1.heap.size W1 W2 := by rw [e2]; exact below_box _ _
  have xx2 := Bx.new W1 #[.int .i64 0, .int .i64 0, .int .i64 0, .int .i64 0] 57
  rw [← e2] at xx2
  rw [s1] at xx2
  have HB := Lib.hid (below_2 bb1 bb2)
  have HX := Lib.hid (xx1.below bb2)
  have HZ := Lib.hid xx2
  have HW : Hid ((w.alloc (.cells #[.string p.name, .slice a1 p.params.length c1, .slice a2 p.body.length c2] 25)).alloc (.cells #[.int .i64 0, .int .i64 0, .int .i64 0, .int .i64 0] 57) = W2) := by show _ = _; rw [← e1, ← e2]
  have HC := Lib.hid (N.oCheck_any p a1 a2 c1 c2 hok hc1 W2 (ht.below HB.out) (hK.below HB.out))
  have HK := Lib.hid (hK.below HB.out)
  have HLs : Hid (N.checkN p = 0 → ∀ w', Below W2.heap.size W2 w' → Calls Tryz.prog 61 #[.slice a2 p.body.length c2] w' fun e' w'' => e' = .returned (ctV (exB p.body).cut) ∧ Below w'.heap.size w' w'') := fun h w' hb => list_of h hok a2 c2 w' (HK.out.below hb).body
  obtain ⟨V, hV⟩ : ∃ V, cst p = V := ⟨_, rfl⟩
  have hV2 : (if N.checkN p ≠ 0 then Ci.no else Ci.of (exB p.body).cut) = V := hV
  rw [hV]
  have HV := Lib.hid hV2
  generalize N.checkN p = E at *
  clear e1 e2 bb1 bb2 xx1 xx2 s1 hok hc1 ht hK hV hV2
  unfold prV at HC ⊢
  by_cases h0 : E = 0
  case neg =>
    have b1 : (E != 0) = true := bne_iff_ne.2 h0
    have hv := HV.out
    rw [if_pos h0] at hv
    subst hv
    clear h0 HV
    go_enter Tryz.func35, Tryz.ntmps35
    go_wp2_with fail
    rw [HW.out]
    have x0 := HX.out.cell 0
    have x1 := HX.out.cell 1
    have x2 := HX.out.cell 2
    simp only [List.getElem?_toArray, List.getElem?_cons_zero, List.getElem?_cons_succ] at x0 x1 x2
    go_wp2_with fail
    refine HC.out.mono ?_; rintro e' w3 ⟨rfl, hb3⟩
    have HB3 := Lib.hid (below_2 HB.out hb3)
    have hz3 := HZ.out.below hb3
    clear hb3 x0 x1 x2
    obtain ⟨d0, d1, d2, d3, d4, d5, d6, d7⟩ := four_open hz3
    have hz := four_set hz3 (.int .i64 (-1)) (.int .i64 (-1)) (.int .i64 (-1)) (.int .i64 (-1))
    have q0 := hz.cell 0
    have q1 := hz.cell 1
    have q2 := hz.cell 2
    have q3 := hz.cell 3
    simp only [List.getElem?_toArray, List.getElem?_cons_zero, List.getElem?_cons_succ] at q0 q1 q2 q3
    clear hz
    go_wp2_with fail
    refine bodyPost_ret (v := .tuple #[.agg #[.int .i64 (-1), .int .i64 (-1), .int .i64 (-1), .int .i64 (-1)], .int .i64 E]) (by simp [results, Tryz.results35, go_sem, q0, q1, q2, q3]) rfl ?_
    exact ⟨rfl, four_below HB3.out (Nat.le_succ _) _ _ _ _⟩
  subst h0
  have hv := HV.out
  rw [if_neg (fun z => z rfl)] at hv
  have HL2 := Lib.hid (HLs.out rfl)
  generalize (exB p.body).cut = X at hv HL2
  subst hv
  unfold ctV at HL2
  clear HV HLs
  go_enter Tryz.func35, Tryz.ntmps35
  go_wp2_with fail
  rw [HW.out]
  have x0 := HX.out.cell 0
  have x1 := HX.out.cell 1
  have x2 := HX.out.cell 2
  simp only [List.getElem?_toArray, List.getElem?_cons_zero, List.getElem?_cons_succ] at x0 x1 x2
  go_wp2_with fail
  refine HC.out.mono ?_; rintro e' w3 ⟨rfl, hb3⟩
  have HB3 := Lib.hid hb3
  have x3 := (HX.out.below hb3).cell 2
  simp only [List.getElem?_toArray, List.getElem?_cons_zero, List.getElem?_cons_succ] at x3
  clear hb3 x0 x1 x2
  go_wp2_with fail
  refine (HL2.out _ HB3.out).mono ?_; rintro e' w4 ⟨rfl, hb4⟩
  have HB4 := Lib.hid (below_2 HB.out (below_2 HB3.out hb4))
  have hz4 := HZ.out.below (below_2 HB3.out hb4)
  clear hb4 x3
  obtain ⟨d0, d1, d2, d3, d4, d5, d6, d7⟩ := four_open hz4
  have hz := four_set hz4 (.int .i64 (X.s : Int)) (.int .i64 (X.g : Int)) (.int .i64 (X.u : Int)) (.int .i64 (X.m : Int))
  have q0 := hz.cell 0
  have q1 := hz.cell 1
  have q2 := hz.cell 2
  have q3 := hz.cell 3
  simp only [List.getElem?_toArray, List.getElem?_cons_zero, List.getElem?_cons_succ] at q0 q1 q2 q3
  clear hz
  go_wp2_with fail
  refine bodyPost_ret (v := .tuple #[.agg #[.int .i64 (X.s : Int), .int .i64 (X.g : Int), .int .i64 (X.u : Int), .int .i64 (X.m : Int)], .int .i64 0]) (by simp [results, Tryz.results35, go_sem, q0, q1, q2, q3]) rfl ?_
  exact ⟨rfl, four_below HB4.out (Nat.le_succ _) _ _ _ _⟩
set_option maxHeartbeats 8000000 in
set_option maxRecDepth 100000 in
theorem oSteps_any (p : Pr) (a1 a2 : Option Addr) (c1 c2 : Nat) (hok : OkP p) (hc1 : p.params.length ≤ c1) (w : World) (ht : Y.Tb w) (hK : PrIn w p a1 a2) :
    Calls Tryz.prog 30 #[prV p a1 c1 a2 c2] w fun e' w' => e' = .returned (.int .i64 (cst p).s) ∧ Below w.heap.size w w' := by
  obtain ⟨W1, e1⟩ : ∃ z, z = w.alloc (.cells #[.string p.name, .slice a1 p.params.length c1, .slice a2 p.body.length c2] 25) := ⟨_, rfl⟩
  have bb1 : Below w.heap.size w W1 := by rw [e1]; exact below_box _ _
  have xx1 := Bx.new w #[.string p.name, .slice a1 p.params.length c1, .slice a2 p.body.length c2] 25
  rw [← e1] at xx1
  have s1 : W1.heap.size = w.heap.size + 1 := by rw [e1]; simp
  have HB := Lib.hid bb1
  have HX := Lib.hid xx1
  have HW : Hid (w.alloc (.cells #[.string p.name, .slice a1 p.params.length c1, .slice a2 p.body.length c2] 25) = W1) := by show _ = _; rw [← e1]
  have HC := Lib.hid (oproc_any p a1 a2 c1 c2 hok hc1 W1 (ht.below HB.out) (hK.below HB.out))
  generalize N.checkN p = E at *
  generalize cst p = C at *
  obtain ⟨C0, C1, C2, C3⟩ := C
  clear e1 bb1 xx1 s1 hok hc1 ht hK
  unfold ciV at HC
  unfold prV at HC ⊢
  go_enter Tryz.func30, Tryz.ntmps30
  go_wp2_with fail
  rw [HW.out]
  have x0 := HX.out.cell 0
  have x1 := HX.out.cell 1
  have x2 := HX.out.cell 2
  simp only [List.getElem?_toArray, List.getElem?_cons_zero, List.getElem?_cons_succ] at x0 x1 x2
  go_wp2_with fail
  refine HC.out.mono ?_; rintro e' w3 ⟨rfl, hb3⟩
  have HB3 := Lib.hid (below_2 HB.out hb3)
  clear hb3 x0 x1 x2
  go_wp2_with fail
  go_ret
  exact ⟨rfl, below_2 HB3.out (below_box _ _)⟩
set_option maxHeartbeats 8000000 in
set_option maxRecDepth 100000 in
theorem oGets_any (p : Pr) (a1 a2 : Option Addr) (c1 c2 : Nat) (hok : OkP p) (hc1 : p.params.length ≤ c1) (w : World) (ht : Y.Tb w) (hK : PrIn w p a1 a2) :
    Calls Tryz.prog 31 #[prV p a1 c1 a2 c2] w fun e' w' => e' = .returned (.int .i64 (cst p).g) ∧ Below w.heap.size w w' := by
  obtain ⟨W1, e1⟩ : ∃ z, z = w.alloc (.cells #[.string p.name, .slice a1 p.params.length c1, .slice a2 p.body.length c2] 25) := ⟨_, rfl⟩
  have bb1 : Below w.heap.size w W1 := by rw [e1]; exact below_box _ _
  have xx1 := Bx.new w #[.string p.name, .slice a1 p.params.length c1, .slice a2 p.body.length c2] 25
  rw [← e1] at xx1
  have s1 : W1.heap.size = w.heap.size + 1 := by rw [e1]; simp
  have HB := Lib.hid bb1
  have HX := Lib.hid xx1
  have HW : Hid (w.alloc (.cells #[.string p.name, .slice a1 p.params.length c1, .slice a2 p.body.length c2] 25) = W1) := by show _ = _; rw [← e1]
  have HC := Lib.hid (oproc_any p a1 a2 c1 c2 hok hc1 W1 (ht.below HB.out) (hK.below HB.out))
  generalize N.checkN p = E at *
  generalize cst p = C at *
  obtain ⟨C0, C1, C2, C3⟩ := C
  clear e1 bb1 xx1 s1 hok hc1 ht hK
  unfold ciV at HC
  unfold prV at HC ⊢
  go_enter Tryz.func31, Tryz.ntmps31
  go_wp2_with fail
  rw [HW.out]
  have x0 := HX.out.cell 0
  have x1 := HX.out.cell 1
  have x2 := HX.out.cell 2
  simp only [List.getElem?_toArray, List.getElem?_cons_zero, List.getElem?_cons_succ] at x0 x1 x2
  go_wp2_with fail
  refine HC.out.mono ?_; rintro e' w3 ⟨rfl, hb3⟩
  have HB3 := Lib.hid (below_2 HB.out hb3)
  clear hb3 x0 x1 x2
  go_wp2_with fail
  go_ret
  exact ⟨rfl, below_2 HB3.out (below_box _ _)⟩
set_option maxHeartbeats 8000000 in
set_option maxRecDepth 100000 in
theorem oPuts_any (p : Pr) (a1 a2 : Option Addr) (c1 c2 : Nat) (hok : OkP p) (hc1 : p.params.length ≤ c1) (w : World) (ht : Y.Tb w) (hK : PrIn w p a1 a2) :
    Calls Tryz.prog 32 #[prV p a1 c1 a2 c2] w fun e' w' => e' = .returned (.int .i64 (cst p).u) ∧ Below w.heap.size w w' := by
  obtain ⟨W1, e1⟩ : ∃ z, z = w.alloc (.cells #[.string p.name, .slice a1 p.params.length c1, .slice a2 p.body.length c2] 25) := ⟨_, rfl⟩
  have bb1 : Below w.heap.size w W1 := by rw [e1]; exact below_box _ _
  have xx1 := Bx.new w #[.string p.name, .slice a1 p.params.length c1, .slice a2 p.body.length c2] 25
  rw [← e1] at xx1
  have s1 : W1.heap.size = w.heap.size + 1 := by rw [e1]; simp
  have HB := Lib.hid bb1
  have HX := Lib.hid xx1
  have HW : Hid (w.alloc (.cells #[.string p.name, .slice a1 p.params.length c1, .slice a2 p.body.length c2] 25) = W1) := by show _ = _; rw [← e1]
  have HC := Lib.hid (oproc_any p a1 a2 c1 c2 hok hc1 W1 (ht.below HB.out) (hK.below HB.out))
  generalize N.checkN p = E at *
  generalize cst p = C at *
  obtain ⟨C0, C1, C2, C3⟩ := C
  clear e1 bb1 xx1 s1 hok hc1 ht hK
  unfold ciV at HC
  unfold prV at HC ⊢
  go_enter Tryz.func32, Tryz.ntmps32
  go_wp2_with fail
  rw [HW.out]
  have x0 := HX.out.cell 0
  have x1 := HX.out.cell 1
  have x2 := HX.out.cell 2
  simp only [List.getElem?_toArray, List.getElem?_cons_zero, List.getElem?_cons_succ] at x0 x1 x2
  go_wp2_with fail
  refine HC.out.mono ?_; rintro e' w3 ⟨rfl, hb3⟩
  have HB3 := Lib.hid (below_2 HB.out hb3)
  clear hb3 x0 x1 x2
  go_wp2_with fail
  go_ret
  exact ⟨rfl, below_2 HB3.out (below_box _ _)⟩
set_option maxHeartbeats 8000000 in
set_option maxRecDepth 100000 in
theorem oEmits_any (p : Pr) (a1 a2 : Option Addr) (c1 c2 : Nat) (hok : OkP p) (hc1 : p.params.length ≤ c1) (w : World) (ht : Y.Tb w) (hK : PrIn w p a1 a2) :
    Calls Tryz.prog 33 #[prV p a1 c1 a2 c2] w fun e' w' => e' = .returned (.int .i64 (cst p).m) ∧ Below w.heap.size w w' := by
  obtain ⟨W1, e1⟩ : ∃ z, z = w.alloc (.cells #[.string p.name, .slice a1 p.params.length c1, .slice a2 p.body.length c2] 25) := ⟨_, rfl⟩
  have bb1 : Below w.heap.size w W1 := by rw [e1]; exact below_box _ _
  have xx1 := Bx.new w #[.string p.name, .slice a1 p.params.length c1, .slice a2 p.body.length c2] 25
  rw [← e1] at xx1
  have s1 : W1.heap.size = w.heap.size + 1 := by rw [e1]; simp
  have HB := Lib.hid bb1
  have HX := Lib.hid xx1
  have HW : Hid (w.alloc (.cells #[.string p.name, .slice a1 p.params.length c1, .slice a2 p.body.length c2] 25) = W1) := by show _ = _; rw [← e1]
  have HC := Lib.hid (oproc_any p a1 a2 c1 c2 hok hc1 W1 (ht.below HB.out) (hK.below HB.out))
  generalize N.checkN p = E at *
  generalize cst p = C at *
  obtain ⟨C0, C1, C2, C3⟩ := C
  clear e1 bb1 xx1 s1 hok hc1 ht hK
  unfold ciV at HC
  unfold prV at HC ⊢
  go_enter Tryz.func33, Tryz.ntmps33
  go_wp2_with fail
  rw [HW.out]
  have x0 := HX.out.cell 0
  have x1 := HX.out.cell 1
  have x2 := HX.out.cell 2
  simp only [List.getElem?_toArray, List.getElem?_cons_zero, List.getElem?_cons_succ] at x0 x1 x2
  go_wp2_with fail
  refine HC.out.mono ?_; rintro e' w3 ⟨rfl, hb3⟩
  have HB3 := Lib.hid (below_2 HB.out hb3)
  clear hb3 x0 x1 x2
  go_wp2_with fail
  go_ret
  exact ⟨rfl, below_2 HB3.out (below_box _ _)⟩
set_option maxHeartbeats 8000000 in
set_option maxRecDepth 100000 in
theorem oCost_any (p : Pr) (a1 a2 : Option Addr) (c1 c2 : Nat) (hok : OkP p) (hc1 : p.params.length ≤ c1) (w : World) (ht : Y.Tb w) (hK : PrIn w p a1 a2) :
    Calls Tryz.prog 15 #[prV p a1 c1 a2 c2] w fun e' w' => e' = .returned (.int .i64 (costE (cst p) (N.checkN p))) ∧ Below w.heap.size w w' := by
  obtain ⟨W1, e1⟩ : ∃ z, z = w.alloc (.cells #[.string p.name, .slice a1 p.params.length c1, .slice a2 p.body.length c2] 25) := ⟨_, rfl⟩
  have bb1 : Below w.heap.size w W1 := by rw [e1]; exact below_box _ _
  have xx1 := Bx.new w #[.string p.name, .slice a1 p.params.length c1, .slice a2 p.body.length c2] 25
  rw [← e1] at xx1
  have s1 : W1.heap.size = w.heap.size + 1 := by rw [e1]; simp
  have HB := Lib.hid bb1
  have HX := Lib.hid xx1
  have HW : Hid (w.alloc (.cells #[.string p.name, .slice a1 p.params.length c1, .slice a2 p.body.length c2] 25) = W1) := by show _ = _; rw [← e1]
  have HC := Lib.hid (oproc_any p a1 a2 c1 c2 hok hc1 W1 (ht.below HB.out) (hK.below HB.out))
  generalize N.checkN p = E at *
  generalize cst p = C at *
  obtain ⟨C0, C1, C2, C3⟩ := C
  clear e1 bb1 xx1 s1 hok hc1 ht hK
  obtain ⟨R, hR⟩ : ∃ R, costE ⟨C0, C1, C2, C3⟩ E = R := ⟨_, rfl⟩
  rw [hR]
  have hR1 : (if E ≠ 0 then E else if 16384 < C0 then 13 else if 64 < C1 ∨ 64 < C2 ∨ 16 < C3 then 2 else 0) = R := hR
  have HR := Lib.hid hR1
  clear hR hR1
  unfold ciV at HC
  unfold prV at HC ⊢
  by_cases h0 : E = 0
  case neg =>
    have b1 : (E != 0) = true := bne_iff_ne.2 h0
    obtain rfl : E = R := by rw [← HR.out, if_pos h0]
    clear h0 HR
    go_enter Tryz.func15, Tryz.ntmps15
    go_wp2_with fail
    rw [HW.out]
    have x0 := HX.out.cell 0
    have x1 := HX.out.cell 1
    have x2 := HX.out.cell 2
    simp only [List.getElem?_toArray, List.getElem?_cons_zero, List.getElem?_cons_succ] at x0 x1 x2
    go_wp2_with fail
    refine HC.out.mono ?_; rintro e' w3 ⟨rfl, hb3⟩
    have HB3 := Lib.hid (below_2 HB.out hb3)
    clear hb3 x0 x1 x2
    go_wp2_with fail
    go_ret
    exact ⟨rfl, below_2 HB3.out (below_box _ _)⟩
  subst h0
  by_cases h0 : 16384 < C0
  · have b0 : decide (16384 < C0) = true := decide_eq_true h0
    obtain rfl : 13 = R := by rw [← HR.out, if_neg (fun z => z rfl), if_pos h0]
    clear HR
    go_enter Tryz.func15, Tryz.ntmps15
    go_wp2_with fail
    rw [HW.out]
    have x0 := HX.out.cell 0
    have x1 := HX.out.cell 1
    have x2 := HX.out.cell 2
    simp only [List.getElem?_toArray, List.getElem?_cons_zero, List.getElem?_cons_succ] at x0 x1 x2
    go_wp2_with fail
    refine HC.out.mono ?_; rintro e' w3 ⟨rfl, hb3⟩
    have HB3 := Lib.hid (below_2 HB.out hb3)
    clear hb3 x0 x1 x2
    go_wp2_with fail
    go_ret
    exact ⟨rfl, below_2 HB3.out (below_box _ _)⟩
  have b0 : decide (16384 < C0) = false := decide_eq_false h0
  by_cases h1 : 64 < C1
  · have b1 : decide (64 < C1) = true := decide_eq_true h1
    obtain rfl : 2 = R := by rw [← HR.out, if_neg (fun z => z rfl), if_neg h0, if_pos (Or.inl h1)]
    clear HR h0
    go_enter Tryz.func15, Tryz.ntmps15
    go_wp2_with fail
    rw [HW.out]
    have x0 := HX.out.cell 0
    have x1 := HX.out.cell 1
    have x2 := HX.out.cell 2
    simp only [List.getElem?_toArray, List.getElem?_cons_zero, List.getElem?_cons_succ] at x0 x1 x2
    go_wp2_with fail
    refine HC.out.mono ?_; rintro e' w3 ⟨rfl, hb3⟩
    have HB3 := Lib.hid (below_2 HB.out hb3)
    clear hb3 x0 x1 x2
    go_wp2_with fail
    go_ret
    exact ⟨rfl, below_2 HB3.out (below_box _ _)⟩
  have b1 : decide (64 < C1) = false := decide_eq_false h1
  by_cases h2 : 64 < C2
  · have b2 : decide (64 < C2) = true := decide_eq_true h2
    obtain rfl : 2 = R := by rw [← HR.out, if_neg (fun z => z rfl), if_neg h0, if_pos (Or.inr (Or.inl h2))]
    clear HR h0 h1
    go_enter Tryz.func15, Tryz.ntmps15
    go_wp2_with fail
    rw [HW.out]
    have x0 := HX.out.cell 0
    have x1 := HX.out.cell 1
    have x2 := HX.out.cell 2
    simp only [List.getElem?_toArray, List.getElem?_cons_zero, List.getElem?_cons_succ] at x0 x1 x2
    go_wp2_with fail
    refine HC.out.mono ?_; rintro e' w3 ⟨rfl, hb3⟩
    have HB3 := Lib.hid (below_2 HB.out hb3)
    clear hb3 x0 x1 x2
    go_wp2_with fail
    go_ret
    exact ⟨rfl, below_2 HB3.out (below_box _ _)⟩
  have b2 : decide (64 < C2) = false := decide_eq_false h2
  by_cases h3 : 16 < C3
  · have b3 : decide (16 < C3) = true := decide_eq_true h3
    obtain rfl : 2 = R := by rw [← HR.out, if_neg (fun z => z rfl), if_neg h0, if_pos (Or.inr (Or.inr h3))]
    clear HR h0 h1 h2
    go_enter Tryz.func15, Tryz.ntmps15
    go_wp2_with fail
    rw [HW.out]
    have x0 := HX.out.cell 0
    have x1 := HX.out.cell 1
    have x2 := HX.out.cell 2
    simp only [List.getElem?_toArray, List.getElem?_cons_zero, List.getElem?_cons_succ] at x0 x1 x2
    go_wp2_with fail
    refine HC.out.mono ?_; rintro e' w3 ⟨rfl, hb3⟩
    have HB3 := Lib.hid (below_2 HB.out hb3)
    clear hb3 x0 x1 x2
    go_wp2_with fail
    go_ret
    exact ⟨rfl, below_2 HB3.out (below_box _ _)⟩
  have b3 : decide (16 < C3) = false := decide_eq_false h3
  obtain rfl : 0 = R := by rw [← HR.out, if_neg (fun z => z rfl), if_neg h0, if_neg (fun z => z.elim h1 (fun z => z.elim h2 h3))]
  clear HR h0 h1 h2 h3
  go_enter Tryz.func15, Tryz.ntmps15
  go_wp2_with fail
  rw [HW.out]
  have x0 := HX.out.cell 0
  have x1 := HX.out.cell 1
  have x2 := HX.out.cell 2
  simp only [List.getElem?_toArray, List.getElem?_cons_zero, List.getElem?_cons_succ] at x0 x1 x2
  go_wp2_with fail
  refine HC.out.mono ?_; rintro e' w3 ⟨rfl, hb3⟩
  have HB3 := Lib.hid (below_2 HB.out hb3)
  clear hb3 x0 x1 x2
  go_wp2_with fail
  go_ret
  exact ⟨rfl, below_2 HB3.out (below_box _ _)⟩
end Go.Proofs.YtkjefigebdbkaaaGreatDoor.Q
