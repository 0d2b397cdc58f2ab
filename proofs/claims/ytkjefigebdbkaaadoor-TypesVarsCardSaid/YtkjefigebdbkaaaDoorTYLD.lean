/-
  The laws of layer 11: the law package's examples hold.
-/
import Derived.Test.YtkjefigebdbkaaaDoorTYLB
namespace Go.Proofs.YtkjefigebdbkaaaDoor.Y
open Go.RowKit
open L (Str isName prt size_len below_2 below_box ret_bool ret_int eql_eq bytes_eq)
open A (Ex St Pm Pr V arity vE vEs absent exV exO exV_mk Bx okE okEs cE cEs PmsAt StrsAt PrIn OkP prV prO names valE ExsAt ExAt StsAt StAt Bodies)
open P (G Kd On off_of wp_region_G)

set_option maxHeartbeats 16000000 in
set_option maxRecDepth 1000000 in
theorem works_any (w : World) (ht : Tb w) : Calls Tryd.prog 8 #[] w fun e w' => e = .returned (.bool true) ∧ Below w.heap.size w w' := by
  have HT := Lib.hid ht
  have HNx := Lib.hid (lname_any ⟨#[120]⟩)
  have HTa := Lib.hid (ltext_any ⟨#[97]⟩)
  have HTk := Lib.hid (ltext_any ⟨#[107]⟩)
  have HO := Lib.hid lone_any
  clear ht
  go_enter Tryd.func8, Tryd.ntmps8
  go_wp2_with fail
  refine (HNx.out _).mono ?_; rintro e w1 ⟨rfl, hb1⟩
  have HB1 := Lib.hid hb1
  have HC1 := Lib.hid (call_1 (HT.out.below hb1))
  clear hb1
  go_wp2_with fail
  refine HC1.out.mono ?_; rintro e w2 ⟨rfl, hb2⟩
  have HB2 := Lib.hid (below_2 HB1.out hb2)
  clear hb2 HC1
  go_wp2_with fail
  refine (HO.out _).mono ?_; rintro e w3 ⟨rfl, hb3⟩
  have HB3 := Lib.hid (below_2 HB2.out hb3)
  clear hb3
  go_wp2_with fail
  refine (HTa.out _).mono ?_; rintro e w4 ⟨rfl, hb4⟩
  have HB4 := Lib.hid (below_2 HB3.out hb4)
  have HC2 := Lib.hid (call_2 (HT.out.below HB4.out))
  clear hb4
  go_wp2_with fail
  refine HC2.out.mono ?_; rintro e w5 ⟨rfl, hb5⟩
  have HB5 := Lib.hid (below_2 HB4.out hb5)
  clear hb5 HC2
  go_wp2_with fail
  refine (HNx.out _).mono ?_; rintro e w6 ⟨rfl, hb6⟩
  have HB6 := Lib.hid (below_2 HB5.out hb6)
  clear hb6
  go_wp2_with fail
  refine (HTa.out _).mono ?_; rintro e w7 ⟨rfl, hb7⟩
  have HB7 := Lib.hid (below_2 HB6.out hb7)
  have HC3 := Lib.hid (call_3 (HT.out.below HB7.out))
  clear hb7
  go_wp2_with fail
  refine HC3.out.mono ?_; rintro e w8 ⟨rfl, hb8⟩
  have HB8 := Lib.hid (below_2 HB7.out hb8)
  clear hb8 HC3
  go_wp2_with fail
  refine (HTk.out _).mono ?_; rintro e w9 ⟨rfl, hb9⟩
  have HB9 := Lib.hid (below_2 HB8.out hb9)
  clear hb9 HB1 HB2 HB3 HB4 HB5 HB6 HB7 HB8
  go_wp2_with fail
  have hbA := below_box w9 (.cells #[.int .i64 2, .int .i64 0, .string ⟨#[107]⟩, .slice none 0 0] 46)
  have hbW := below_box (w9.alloc (.cells #[.int .i64 2, .int .i64 0, .string ⟨#[107]⟩, .slice none 0 0] 46)) (.cells #[.int .i64 24, .int .i64 0, .string ⟨#[]⟩, .slice (some ⟨w9.heap.size, 0, none⟩) 1 1] 46)
  have hk0 := (Bx.new w9 #[.int .i64 2, .int .i64 0, .string ⟨#[107]⟩, .slice none 0 0] 46).below hbW
  have hk1 := Bx.new (w9.alloc (.cells #[.int .i64 2, .int .i64 0, .string ⟨#[107]⟩, .slice none 0 0] 46)) #[.int .i64 24, .int .i64 0, .string ⟨#[]⟩, .slice (some ⟨w9.heap.size, 0, none⟩) 1 1] 46
  rw [show (w9.alloc (.cells #[.int .i64 2, .int .i64 0, .string ⟨#[107]⟩, .slice none 0 0] 46)).heap.size = w9.heap.size + 1 by simp] at hk1
  have hb9W := below_2 HB9.out (below_2 hbA hbW)
  generalize ((w9.alloc (.cells #[.int .i64 2, .int .i64 0, .string ⟨#[107]⟩, .slice none 0 0] 46)).alloc (.cells #[.int .i64 24, .int .i64 0, .string ⟨#[]⟩, .slice (some ⟨w9.heap.size, 0, none⟩) 1 1] 46)) = W at *
  have HX := Lib.hid hk1
  have HK0 := Lib.hid hk0
  have HBW := Lib.hid hb9W
  clear hbA hbW hk0 hk1 hb9W
  refine regW5 (h := w9.heap.size) (q1 := w1.heap.size) (q4 := w4.heap.size) (q7 := w7.heap.size) HO HNx HX ?_
  intro g9 g7 g3 w10 hb10 hx9 hx7 hx3 u0 u1 u2 u3 u4 u5 u6 u7 u8
  have HB10 := Lib.hid hb10
  have HP9 := Lib.hid hx9
  have HP7 := Lib.hid hx7
  have HP3 := Lib.hid hx3
  clear hb10 hx9 hx7 hx3 HNx HTa HTk HB9
  go_wp2_with fail
  refine (HO.out _).mono ?_; rintro e w11 ⟨rfl, hb11⟩
  have HB11 := Lib.hid hb11
  clear hb11
  go_wp2_with fail
  refine (HO.out _).mono ?_; rintro e w12 ⟨rfl, hb12⟩
  have HB12 := Lib.hid (below_2 HB11.out hb12)
  clear hb12
  go_wp2_with fail
  refine (HO.out _).mono ?_; rintro e w13 ⟨rfl, hb13⟩
  have hb1D := below_2 HB12.out hb13
  clear hb13 HB11 HB12
  have hbZ := below_2 (below_2 (below_2 (below_box w13 (.cells #[.int .i64 2, .string ⟨#[105]⟩, .int .i64 0, .int .i64 1, .int .i64 1, .string ⟨#[]⟩, .slice none 0 0, .int .i64 0, .int .i64 0, .string ⟨#[]⟩, .slice none 0 0, .slice none 0 0, .slice none 0 0] 48)) (below_box _ (.cells #[.int .i64 6, .string ⟨#[105]⟩, .int .i64 2, .int .i64 1, .int .i64 1, .string ⟨#[]⟩, .slice none 0 0, .int .i64 1, .int .i64 1, .string ⟨#[]⟩, .slice none 0 0, .slice (some ⟨w13.heap.size, 0, none⟩) 1 1, .slice none 0 0] 48))) (below_box _ (.cells #[.string ⟨#[113]⟩, .slice none 0 0, .slice (some ⟨w13.heap.size + 1, 0, none⟩) 1 1] 25))) (below_box _ (.cells #[.string ⟨#[97]⟩, .int .i64 2] 51))
  have hxz := (HX.out.below (below_2 HB10.out hb1D)).below hbZ
  have c0 := hxz.cell 0
  have c1 := hxz.cell 1
  have c2 := hxz.cell 2
  have c3 := hxz.cell 3
  have hch := chain (h := w9.heap.size) (g9 := g9) (g7 := g7) (g3 := g3) (HT.out.below (below_2 HBW.out (below_2 HB10.out hb1D))) (HK0.out.below (below_2 HB10.out hb1D)) (HP9.out.below hb1D) (HP7.out.below hb1D) (HP3.out.below hb1D)
  have HBd := Lib.hid (below_2 (below_2 HBW.out (below_2 HB10.out hb1D)) hch.2)
  have HR := Lib.hid hch.1
  clear hch hxz hbZ hb1D HX HK0 HBW HB10 HP9 HP7 HP3
  go_wp2_with fail
  refine (vars_r HR.out).mono ?_; rintro e w14 ⟨p14, q14, rfl, hle, hpm, hb14⟩
  clear c0 c1 c2 c3 hle
  have HB14 := Lib.hid (below_2 HBd.out hb14)
  have HR1 := Lib.hid (HR.out.below hb14)
  clear hb14 HR HBd
  obtain hn | ⟨bv, iv, rfl, hcv⟩ := hpm
  · exact absurd hn (by simp)
  have y0 := (hcv 0 (by decide)).2
  have y1 := (hcv 1 (by decide)).1
  have y2 := (hcv 1 (by decide)).2
  simp only [List.getElem_cons_zero, List.getElem_cons_succ] at y0 y1 y2
  clear hcv
  generalize w13.heap.size = n at *
  have x0 := HR1.out.p9.cell 0
  have x1 := HR1.out.p9.cell 1
  have x2 := HR1.out.p9.cell 2
  go_wp2_with fail
  refine (check_p HR1.out).mono ?_; rintro e w15 ⟨rfl, hb⟩
  have HB15 := Lib.hid (below_2 HB14.out hb)
  have HR2 := Lib.hid (HR1.out.below hb)
  clear hb HR1 HB14 x0 x1 x2
  have x0 := HR2.out.q.cell 0
  have x1 := HR2.out.q.cell 1
  have x2 := HR2.out.q.cell 2
  go_wp2_with fail
  refine (check_q HR2.out).mono ?_; rintro e w16 ⟨rfl, hb⟩
  have HB16 := Lib.hid (below_2 HB15.out hb)
  have HR3 := Lib.hid (HR2.out.below hb)
  clear hb HR2 HB15 x0 x1 x2
  have x0 := HR3.out.r.cell 0
  have x1 := HR3.out.r.cell 1
  have x2 := HR3.out.r.cell 2
  go_wp2_with fail
  refine (check_r HR3.out).mono ?_; rintro e w17 ⟨rfl, hb⟩
  have HB17 := Lib.hid (below_2 HB16.out hb)
  have HR4 := Lib.hid (HR3.out.below hb)
  clear hb HR3 HB16 x0 x1 x2
  have x0 := HR4.out.r.cell 0
  have x1 := HR4.out.r.cell 1
  have x2 := HR4.out.r.cell 2
  go_wp2_with fail
  refine (args_1 HR4.out).mono ?_; rintro e w18 ⟨rfl, hb⟩
  have HB18 := Lib.hid (below_2 HB17.out hb)
  have HR5 := Lib.hid (HR4.out.below hb)
  clear hb HR4 HB17 x0 x1 x2
  have x0 := HR5.out.r.cell 0
  have x1 := HR5.out.r.cell 1
  have x2 := HR5.out.r.cell 2
  go_wp2_with fail
  refine (args_2 HR5.out).mono ?_; rintro e w19 ⟨rfl, hb⟩
  have HB19 := Lib.hid (below_2 HB18.out hb)
  have HR6 := Lib.hid (HR5.out.below hb)
  clear hb HR5 HB18 x0 x1 x2
  have x0 := HR6.out.r.cell 0
  have x1 := HR6.out.r.cell 1
  have x2 := HR6.out.r.cell 2
  go_wp2_with fail
  refine (args_3 HR6.out).mono ?_; rintro e w20 ⟨rfl, hb⟩
  have HB20 := Lib.hid (below_2 HB19.out hb)
  clear hb HR6 HB19 x0 x1 x2
  go_wp2_with fail
  go_ret
  exact ⟨rfl, HB20.out⟩
end Go.Proofs.YtkjefigebdbkaaaDoor.Y
