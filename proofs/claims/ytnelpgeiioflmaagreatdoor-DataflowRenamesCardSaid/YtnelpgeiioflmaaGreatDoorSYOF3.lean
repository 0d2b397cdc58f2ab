/-
  What the program's function stmt of layer 11 returns for the operator 3 of statements: a contract.
-/
import Derived.Test.YtnelpgeiioflmaaGreatDoorM15
namespace Go.Proofs.YtnelpgeiioflmaaGreatDoor.Y
open Go.RowKit
open L (Str isName prt size_len below_2 below_box ret_bool ret_int eql_eq bytes_eq)
open A (Ex St Pm Pr V arity vE vEs absent exV exO Bx RowK Own1 exV_mk exO_mk okE cE PmsAt Stays Bodies stC)

set_option maxHeartbeats 8000000 in
set_option maxRecDepth 100000 in
theorem ostmt_3 {w0 : World} (hT : Tb w0) {s : St} (hg : gS s) (a1 a2 a3 a4 : Option Addr) (c1 c2 c3 c4 : Nat)
    (hK1 : A.Kids w0 a1 s.a.args) (hK2 : A.Kids w0 a2 s.b.args) {g bv bl n : Nat} {X : Nat → Prop} {c : Cx} {w : World} (hb : Below w0.heap.size w0 w) (hC : CK w w0.heap.size X g bv bl n c) (h1 : (tyE c.vis s.a).2 = 0) (h2 : (tyE c.vis s.b).2 = 0) (ho : s.op = 3) :
    Calls Tryz.prog 102 #[.pointer (some ⟨g, 0, none⟩), stC s a1 c1 a2 c2 a3 c3 a4 c4] w (PL w0 X g bv bl (n + 2 * (dS s).length) w (ckS c s)) := by
  have H1 := Lib.hid h1
  have H2 := Lib.hid h2
  have HO := Lib.hid ho
  clear h1 h2 ho
  obtain ⟨⟨d0, hgood⟩, -⟩ := gS_open hg
  obtain ⟨C, hCdef⟩ : ∃ C : Array Value, C = #[.int .i64 s.op, .string s.name, .int .i64 s.mx, .int .i64 s.a.op, .int .i64 s.a.n, .string s.a.s, .slice a1 s.a.args.length c1, .int .i64 s.b.op, .int .i64 s.b.n, .string s.b.s, .slice a2 s.b.args.length c2, .slice a3 s.body.length c3, .slice a4 s.els.length c4] := ⟨_, rfl⟩
  have hbw := below_box w (.cells C 44)
  have hbx := Bx.new w C 44
  have hC1 := hC.wide (Nat.le_refl _) hbw (by simp)
  have hB1 : Below w0.heap.size w0 (w.alloc (.cells C 44)) := hb.trans (hbw.mono (Nat.le_of_lt hC.size))
  have hkx : Kx w0.heap.size X w (w.alloc (.cells C 44)) := Kx.of hbw (Nat.le_of_lt hC.size) hC.xs
  obtain ⟨p, q, hk⟩ := hC1
  have HTA := Lib.hid (fun (d : Nat) (os : Array Obj) => Calls.regrown_of (d := d) (os := os) (otypeOf_any (f := c.vis) s.a a1 c1 (Sort.grow (redrawn (w.alloc (.cells C 44)) d) os) bv n (hk.below (below_regrown _ d os)).vis (vd_a hgood) ((hT.below hB1).below (below_regrown _ d os)) ((hK1.below hB1).below (below_regrown _ d os))))
  have HTB := Lib.hid (fun (w2 : World) (hb2 : Below (w.alloc (.cells C 44)).heap.size (w.alloc (.cells C 44)) w2) (d : Nat) (os : Array Obj) => Calls.regrown_of (d := d) (os := os) (otypeOf_any (f := c.vis) s.b a2 c2 (Sort.grow (redrawn w2 d) os) bv n ((hk.below hb2).below (below_regrown _ d os)).vis (vd_b hgood) (((hT.below hB1).below hb2).below (below_regrown _ d os)) (((hK2.below hB1).below hb2).below (below_regrown _ d os))))
  have hra : (tyE c.vis s.a).2 = 0 → 0 ≤ (tyE c.vis s.a).1 ∧ (tyE c.vis s.a).1 ≤ 3 := fun h0 => by
    rcases vd_a hgood with ⟨d, hv⟩ | hv
    · have := (ty_rng c.vis s.a hv).resolve_right (by omega)
      omega
    · rw [ty_absent c.vis hv]; exact ⟨by decide, by decide⟩
  have hE3 := ckS_ok (c := c) (s := s)
  generalize tyE c.vis s.a = ra at *
  generalize tyE c.vis s.b = rb at *
  generalize ckS c s = R at *
  have HE3 := Lib.hid hE3
  have HB1 := Lib.hid hB1
  have HBX := Lib.hid hbx
  have HW := Lib.hid hkx
  have HCK : Hid (CK (w.alloc (.cells C 44)) w0.heap.size (fun k => X k ∨ k = w.heap.size) g bv bl n c) := ⟨p, q, hk⟩
  have HRA := Lib.hid hra
  have g0 := hk.box.cell 0
  simp at g0
  have g0' := fun (d : Nat) (os : Array Obj) => cell_regrown g0 d os
  have hx : ∀ k, X k → X k ∨ k = w.heap.size := fun k hk => Or.inl hk
  clear hE3 hB1 hbx hkx hk hra hbw hC hb hK1 hK2 hT
  subst hCdef
  unfold stC
  unfold exV at HTA HTB
  go_enter Tryz.func102, Tryz.ntmps102
  have hbx := HBX.out
  have x3 := hbx.cell 3
  have x4 := hbx.cell (3 + 1)
  have x5 := hbx.cell (3 + 2)
  have x6 := hbx.cell (3 + 3)
  simp only [List.getElem?_toArray, List.getElem?_cons_succ, List.getElem?_cons_zero] at x3 x4 x5 x6
  have r3 := fun (d : Nat) (os : Array Obj) => cell_regrown x3 d os
  have r4 := fun (d : Nat) (os : Array Obj) => cell_regrown x4 d os
  have r5 := fun (d : Nat) (os : Array Obj) => cell_regrown x5 d os
  have r6 := fun (d : Nat) (os : Array Obj) => cell_regrown x6 d os
  clear hbx
  go_wp2_with fail
  refine wp_region_quiet_below (by kernel_rfl) (by kernel_rfl) ?_
  repeat (go_big_quiet_step (with_reducible exact HTA.out _ _))
  refine wpQuiet_nil ?_
  intro w2 hw'
  obtain ⟨⟨dq, osq⟩, hw2⟩ := hw'
  have hb2 := below_now hw2
  have HB2 := Lib.hid hb2
  clear hw2 hb2
  have HK2 : Hid (Kx w0.heap.size X w w2) := HW.out.trans (Kx.of HB2.out (Nat.le_of_lt HCK.out.size) (fun k hk => HCK.out.xs k (Or.inl hk)))
  have HC2 := Lib.hid (HCK.out.below HB2.out)
  clear x3 x4 x5 x6 r3 r4 r5 r6 g0'
  have b1 : (ra.2 != 0) = false := by rw [H1.out]; rfl
  have HTB2 := Lib.hid (HTB.out w2 HB2.out)
  have hbx := HBX.out.below HB2.out
  have x7 := hbx.cell 7
  have x8 := hbx.cell (7 + 1)
  have x9 := hbx.cell (7 + 2)
  have x10 := hbx.cell (7 + 3)
  simp only [List.getElem?_toArray, List.getElem?_cons_succ, List.getElem?_cons_zero] at x7 x8 x9 x10
  have y0 := (HB2.out.cell (block_lt_of_cell g0)).trans g0
  have r0 := fun (d : Nat) (os : Array Obj) => cell_regrown y0 d os
  have r7 := fun (d : Nat) (os : Array Obj) => cell_regrown x7 d os
  have r8 := fun (d : Nat) (os : Array Obj) => cell_regrown x8 d os
  have r9 := fun (d : Nat) (os : Array Obj) => cell_regrown x9 d os
  have r10 := fun (d : Nat) (os : Array Obj) => cell_regrown x10 d os
  clear hbx g0
  go_wp2_with fail
  refine wp_region_quiet_below (by kernel_rfl) (by kernel_rfl) ?_
  repeat (go_big_quiet_step (with_reducible exact HTB2.out _ _))
  refine wpQuiet_nil ?_
  intro w4 hw'
  obtain ⟨⟨dq, osq⟩, hw2⟩ := hw'
  have hb4 := below_now hw2
  have HB4 := Lib.hid hb4
  have HK4 : Hid (Kx w0.heap.size X w w4) := HK2.out.trans (Kx.of hb4 (Nat.le_of_lt HC2.out.size) (fun k hk => HC2.out.xs k (Or.inl hk)))
  have HC4 := Lib.hid (HC2.out.below hb4)
  have HB04 := Lib.hid ((HB1.out.trans (HB2.out.mono (Nat.le_of_lt HCK.out.size))).trans (hb4.mono (Nat.le_of_lt HC2.out.size)))
  have HBX4 := Lib.hid ((HBX.out.below HB2.out).below hb4)
  clear hw2 hb4 x7 x8 x9 x10 r0 r7 r8 r9 r10 y0
  have b2 : (rb.2 != 0) = false := by rw [H2.out]; rfl
  have hR := HE3.out H1.out H2.out
  have HRA2 := Lib.hid (HRA.out H1.out)
  have hbx := HBX4.out
  have z0 := hbx.cell 0
  simp only [List.getElem?_toArray, List.getElem?_cons_zero] at z0
  have HSx := Lib.hid (fun x : Int => show PL w0 X g bv bl (n + 2 * (dS s).length) w (c, x) (.returned (.int .i64 x)) w4 from ⟨rfl, (HC4.out.narrow hx).mono (Nat.le_add_right _ _), HK4.out⟩)
  have HTE := Lib.hid (fun b w => otypeError_any b w)
  clear hbx
  have ho := HO.out
  rw [ho] at z0 hR
  rw [if_neg (by decide), if_neg (by decide), if_pos rfl] at hR
  have HP := Lib.hid (HSx.out (fitE (decide (ra.1 = 2) && !decide (rb.1 = 3))))
  rw [← hR] at HP
  have e1 : (ra.1 == 2) = decide (ra.1 = 2) := Bool.beq_eq_decide_eq _ _
  have e2 : (rb.1 != 3) = !decide (rb.1 = 3) := by rw [bne, Bool.beq_eq_decide_eq]
  generalize decide (ra.1 = 2) = y1 at *
  generalize decide (rb.1 = 3) = y2 at *
  clear hR ho
  cases y1
  · have HD := Lib.hid (HTE.out false w4)
    go_wp2_with fail
    refine HD.out.mono ?_; rintro e' w5 ⟨rfl, rfl⟩
    go_wp2_with fail
    go_ret
    exact HP.out
  · have HD := Lib.hid (HTE.out (!y2) w4)
    go_wp2_with fail
    refine HD.out.mono ?_; rintro e' w5 ⟨rfl, rfl⟩
    go_wp2_with fail
    go_ret
    exact HP.out
end Go.Proofs.YtnelpgeiioflmaaGreatDoor.Y
