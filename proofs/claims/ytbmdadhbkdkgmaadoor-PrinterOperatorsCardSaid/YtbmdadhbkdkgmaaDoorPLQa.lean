/-
  The laws of layer 9: PrinterOperators: its regions, 3, 5, 8, 16.
-/
import Derived.Test.YtbmdadhbkdkgmaaDoorPLQ
import Derived.Test.YtbmdadhbkdkgmaaDoorPLN
import Derived.Deep.CutRange
namespace Go.Proofs.YtbmdadhbkdkgmaaDoor.P
open Go.RowKit
open L (Str isName prt size_len below_2 below_box ret_bool ret_int ret_string bytes_eq append_list Own8)
open A
set_option maxHeartbeats 16000000 in
set_option maxRecDepth 1000000 in
theorem reg3 {ea eb ec : Ex} {m1 m2 m3 : Option Addr} {n1 n2 n3 : Nat} {p3 p4 p5 : Nat} {u19 u20 u21 u22 u23 u24 u25 u26 u27 u28 u29 u30 u31 u32 u33 u34 u35 u36 u37 u38 u39 u40 u41 u42 : Value} {X1 X2 X3 : ByteArray} {W1 : World} (HAp : Hid (∀ (o : Int) (a : Option Addr) (n c : Nat) (w : World), Calls Tryd.prog 13 #[.int .i64 o, .slice a n c] w fun e w' => e = .returned (.agg #[.int .i64 o, .int .i64 0, .string ⟨#[]⟩, .slice a n c]) ∧ Below w.heap.size w w')) (HT : Hid (Tab W1)) (HX1 : Hid (Bx W1 p3 #[.int .i64 ea.op, .int .i64 ea.n, .string ea.s, .slice m1 ea.args.length n1] 28)) (HX2 : Hid (Bx W1 p4 #[.int .i64 eb.op, .int .i64 eb.n, .string eb.s, .slice m2 eb.args.length n2] 28)) (HX3 : Hid (Bx W1 p5 #[.int .i64 ec.op, .int .i64 ec.n, .string ec.s, .slice m3 ec.args.length n3] 28)) (HK1 : Hid (A.Kids W1 m1 ea.args)) (HK2 : Hid (A.Kids W1 m2 eb.args)) (HK3 : Hid (A.Kids W1 m3 ec.args)) (ok1 : okE ea) (ok2 : okE eb) (ok3 : okE ec) (S1 : Hid (ba (exprT (u1 20 ea)) = ⟨#[116, 101, 120, 116, 40]⟩ ++ X1 ++ ⟨#[41]⟩)) (S2 : Hid (ba (exprT (u1 24 eb)) = ⟨#[104, 97, 115, 40]⟩ ++ X2 ++ ⟨#[41]⟩)) (S3 : Hid (ba (exprT (u1 18 (u1 21 ec))) = ⟨#[110, 111, 116, 32, 108, 101, 110, 40]⟩ ++ X3 ++ ⟨#[41]⟩)) (HS1 : Hid (ba (exprT ea) = X1)) (HS2 : Hid (ba (exprT eb) = X2)) (HS3 : Hid (ba (exprT ec) = X3)) (z1 : X1.size ≤ 573430) (z2 : X2.size ≤ 573430) (z3 : X3.size ≤ 573430) (Q : Exit → Act → World → Prop) (hQ : ∀ (v0 v1 v2 v3 v4 v5 v6 v7 v8 v9 v10 v11 v12 v13 v14 v15 v16 v17 v18 v19 v20 v21 v22 v23 v24 v25 v26 v27 v28 v29 v30 v31 : Value) (wf : World), Hid (Below W1.heap.size W1 wf) → Q .normal { tmps := #[.agg #[.int .i64 ea.op, .int .i64 ea.n, .string ea.s, .slice m1 ea.args.length n1], .agg #[.int .i64 eb.op, .int .i64 eb.n, .string eb.s, .slice m2 eb.args.length n2], .agg #[.int .i64 ec.op, .int .i64 ec.n, .string ec.s, .slice m3 ec.args.length n3], .pointer (some ⟨p3, 0, none⟩), .pointer (some ⟨p4, 0, none⟩), .pointer (some ⟨p5, 0, none⟩), .bool false, undef, undef, undef, undef, undef, undef, undef, undef, undef, undef, undef, undef, u19, u20, u21, u22, u23, u24, u25, u26, u27, u28, u29, u30, u31, u32, u33, u34, u35, u36, u37, u38, u39, u40, u41, u42, .bool false, undef, v0, v1, v2, v3, v4, v5, v6, v7, v8, v9, v10, v11, v12, v13, v14, v15, v16, v17, v18, v19, v20, v21, v22, v23, v24, v25, v26, v27, v28, v29, v30, v31, .bool false, undef, undef, undef, undef, undef, undef, undef, undef, undef, undef, undef, undef, undef, undef, undef, undef, undef, undef, undef, undef, undef, undef, undef, undef, undef, undef, undef, undef, undef, undef, undef, undef, undef, undef, undef, undef, undef, undef, undef, undef, undef, undef, undef, undef, undef, undef, undef, undef, undef, undef, undef, undef, undef, undef, undef, undef, undef, undef, undef, undef, undef, undef, undef, undef, undef, undef, undef, undef, undef, undef, undef, undef, undef, undef, undef, undef, undef, undef, undef, undef, undef, undef, undef, undef, undef, undef, undef, undef, undef, undef, undef, undef, undef, undef, undef, undef, undef, undef, undef, undef, undef, undef, undef, undef, undef, undef, undef, undef, undef, undef, undef, undef, undef, undef, undef, undef, undef, undef, undef, undef, undef, undef, undef, undef, undef, undef, undef, undef, undef, undef, undef, undef, undef, undef, undef, undef, undef, undef, undef, undef, undef, undef, undef, undef, undef, undef, undef, undef, undef, undef, undef, undef, undef], defers := [] } wf) :
    Code.wp Tryd.prog (Code.region 3 (opsOf 3) true) Q { tmps := #[.agg #[.int .i64 ea.op, .int .i64 ea.n, .string ea.s, .slice m1 ea.args.length n1], .agg #[.int .i64 eb.op, .int .i64 eb.n, .string eb.s, .slice m2 eb.args.length n2], .agg #[.int .i64 ec.op, .int .i64 ec.n, .string ec.s, .slice m3 ec.args.length n3], .pointer (some ⟨p3, 0, none⟩), .pointer (some ⟨p4, 0, none⟩), .pointer (some ⟨p5, 0, none⟩), .bool false, undef, undef, undef, undef, undef, undef, undef, undef, undef, undef, undef, undef, u19, u20, u21, u22, u23, u24, u25, u26, u27, u28, u29, u30, u31, u32, u33, u34, u35, u36, u37, u38, u39, u40, u41, u42, .bool false, undef, undef, undef, undef, undef, undef, undef, undef, undef, undef, undef, undef, undef, undef, undef, undef, undef, undef, undef, undef, undef, undef, undef, undef, undef, undef, undef, undef, undef, undef, undef, undef, undef, undef, undef, undef, undef, undef, undef, undef, undef, undef, undef, undef, undef, undef, undef, undef, undef, undef, undef, undef, undef, undef, undef, undef, undef, undef, undef, undef, undef, undef, undef, undef, undef, undef, undef, undef, undef, undef, undef, undef, undef, undef, undef, undef, undef, undef, undef, undef, undef, undef, undef, undef, undef, undef, undef, undef, undef, undef, undef, undef, undef, undef, undef, undef, undef, undef, undef, undef, undef, undef, undef, undef, undef, undef, undef, undef, undef, undef, undef, undef, undef, undef, undef, undef, undef, undef, undef, undef, undef, undef, undef, undef, undef, undef, undef, undef, undef, undef, undef, undef, undef, undef, undef, undef, undef, undef, undef, undef, undef, undef, undef, undef, undef, undef, undef, undef, undef, undef, undef, undef, undef, undef, undef, undef, undef, undef, undef, undef, undef, undef, undef, undef, undef, undef, undef, undef, undef, undef, undef, undef, undef, undef, undef, undef, undef, undef, undef, undef, undef, undef, undef, undef, undef, undef, undef], defers := [] } W1 := by
  conv => arg 2; arg 2; whnf
  refine wp_region_G rfl ([.val [] (fun _ => .agg #[.int .i64 ea.op, .int .i64 ea.n, .string ea.s, .slice m1 ea.args.length n1]), .blk 1 [] (fun _ => #[.int .i64 ea.op, .int .i64 ea.n, .string ea.s, .slice m1 ea.args.length n1]) 28, .val [1] (fun xs => .agg #[.int .i64 20, .int .i64 0, .string ⟨#[]⟩, xs.getD 0 undef]), .val [] (fun _ => .string (⟨#[116, 101, 120, 116, 40]⟩ ++ X1 ++ ⟨#[41]⟩ : ByteArray)), .val [] (fun _ => .agg #[.int .i64 ea.op, .int .i64 ea.n, .string ea.s, .slice m1 ea.args.length n1]), .val [] (fun _ => .string X1), .val [] (fun _ => .string (⟨#[116, 101, 120, 116, 40]⟩ ++ X1 : ByteArray)), .val [] (fun _ => .string (⟨#[116, 101, 120, 116, 40]⟩ ++ X1 ++ ⟨#[41]⟩ : ByteArray)), .val [] (fun _ => .bool false), .val [] (fun _ => .bool false), .val [] (fun _ => .agg #[.int .i64 eb.op, .int .i64 eb.n, .string eb.s, .slice m2 eb.args.length n2]), .blk 1 [] (fun _ => #[.int .i64 eb.op, .int .i64 eb.n, .string eb.s, .slice m2 eb.args.length n2]) 28, .val [11] (fun xs => .agg #[.int .i64 24, .int .i64 0, .string ⟨#[]⟩, xs.getD 0 undef]), .val [] (fun _ => .string (⟨#[104, 97, 115, 40]⟩ ++ X2 ++ ⟨#[41]⟩ : ByteArray)), .val [] (fun _ => .agg #[.int .i64 eb.op, .int .i64 eb.n, .string eb.s, .slice m2 eb.args.length n2]), .val [] (fun _ => .string X2), .val [] (fun _ => .string (⟨#[104, 97, 115, 40]⟩ ++ X2 : ByteArray)), .val [] (fun _ => .string (⟨#[104, 97, 115, 40]⟩ ++ X2 ++ ⟨#[41]⟩ : ByteArray)), .val [] (fun _ => .bool false), .val [] (fun _ => .bool false), .val [] (fun _ => .bool false), .val [] (fun _ => .agg #[.int .i64 ec.op, .int .i64 ec.n, .string ec.s, .slice m3 ec.args.length n3]), .blk 1 [] (fun _ => #[.int .i64 ec.op, .int .i64 ec.n, .string ec.s, .slice m3 ec.args.length n3]) 28, .val [22] (fun xs => .agg #[.int .i64 21, .int .i64 0, .string ⟨#[]⟩, xs.getD 0 undef]), .blk 1 [22] (fun xs => #[.int .i64 21, .int .i64 0, .string ⟨#[]⟩, xs.getD 0 undef]) 28, .val [24] (fun xs => .agg #[.int .i64 18, .int .i64 0, .string ⟨#[]⟩, xs.getD 0 undef]), .val [] (fun _ => .string (⟨#[110, 111, 116, 32, 108, 101, 110, 40]⟩ ++ X3 ++ ⟨#[41]⟩ : ByteArray)), .val [] (fun _ => .agg #[.int .i64 ec.op, .int .i64 ec.n, .string ec.s, .slice m3 ec.args.length n3]), .val [] (fun _ => .string X3), .val [] (fun _ => .string (⟨#[110, 111, 116, 32, 108, 101, 110, 40]⟩ ++ X3 : ByteArray)), .val [] (fun _ => .string (⟨#[110, 111, 116, 32, 108, 101, 110, 40]⟩ ++ X3 ++ ⟨#[41]⟩ : ByteArray)), .val [] (fun _ => .bool false), .val [] (fun _ => .bool false)]) (fun ks ops l a w' => ∃ v0 v1 v2 v3 v4 v5 v6 v7 v8 v9 v10 v11 v12 v13 v14 v15 v16 v17 v18 v19 v20 v21 v22 v23 v24 v25 v26 v27 v28 v29 v30 v31 v32 : Value, a = { tmps := #[.agg #[.int .i64 ea.op, .int .i64 ea.n, .string ea.s, .slice m1 ea.args.length n1], .agg #[.int .i64 eb.op, .int .i64 eb.n, .string eb.s, .slice m2 eb.args.length n2], .agg #[.int .i64 ec.op, .int .i64 ec.n, .string ec.s, .slice m3 ec.args.length n3], .pointer (some ⟨p3, 0, none⟩), .pointer (some ⟨p4, 0, none⟩), .pointer (some ⟨p5, 0, none⟩), .bool false, undef, undef, undef, undef, undef, undef, undef, undef, undef, undef, undef, undef, u19, u20, u21, u22, u23, u24, u25, u26, u27, u28, u29, u30, u31, u32, u33, u34, u35, u36, u37, u38, u39, u40, u41, u42, .bool false, undef, v0, v1, v2, v3, v4, v5, v6, v7, v8, v9, v10, v11, v12, v13, v14, v15, v16, v17, v18, v19, v20, v21, v22, v23, v24, v25, v26, v27, v28, v29, v30, v31, v32, undef, undef, undef, undef, undef, undef, undef, undef, undef, undef, undef, undef, undef, undef, undef, undef, undef, undef, undef, undef, undef, undef, undef, undef, undef, undef, undef, undef, undef, undef, undef, undef, undef, undef, undef, undef, undef, undef, undef, undef, undef, undef, undef, undef, undef, undef, undef, undef, undef, undef, undef, undef, undef, undef, undef, undef, undef, undef, undef, undef, undef, undef, undef, undef, undef, undef, undef, undef, undef, undef, undef, undef, undef, undef, undef, undef, undef, undef, undef, undef, undef, undef, undef, undef, undef, undef, undef, undef, undef, undef, undef, undef, undef, undef, undef, undef, undef, undef, undef, undef, undef, undef, undef, undef, undef, undef, undef, undef, undef, undef, undef, undef, undef, undef, undef, undef, undef, undef, undef, undef, undef, undef, undef, undef, undef, undef, undef, undef, undef, undef, undef, undef, undef, undef, undef, undef, undef, undef, undef, undef, undef, undef, undef, undef, undef, undef, undef, undef, undef, undef, undef, undef, undef], defers := [] } ∧ G ks ops W1 l w' [v0, v1, v2, v3, v4, v5, v6, v7, v8, v9, v10, v11, v12, v13, v14, v15, v16, v17, v18, v19, v20, v21, v22, v23, v24, v25, v26, v27, v28, v29, v30, v31, v32]) (by kernel_rfl) (by kernel_rfl) ?_ ?_ ?_
  · intro l hl
    exact ⟨undef, undef, undef, undef, undef, undef, undef, undef, undef, undef, undef, undef, undef, undef, undef, undef, undef, undef, undef, undef, undef, undef, undef, undef, undef, undef, undef, undef, undef, undef, undef, undef, undef, rfl, G.start _ _ hl _⟩
  · intro hok l a w' hI i hi h0 hall
    obtain ⟨v0, hI⟩ := hI
    obtain ⟨v1, hI⟩ := hI
    obtain ⟨v2, hI⟩ := hI
    obtain ⟨v3, hI⟩ := hI
    obtain ⟨v4, hI⟩ := hI
    obtain ⟨v5, hI⟩ := hI
    obtain ⟨v6, hI⟩ := hI
    obtain ⟨v7, hI⟩ := hI
    obtain ⟨v8, hI⟩ := hI
    obtain ⟨v9, hI⟩ := hI
    obtain ⟨v10, hI⟩ := hI
    obtain ⟨v11, hI⟩ := hI
    obtain ⟨v12, hI⟩ := hI
    obtain ⟨v13, hI⟩ := hI
    obtain ⟨v14, hI⟩ := hI
    obtain ⟨v15, hI⟩ := hI
    obtain ⟨v16, hI⟩ := hI
    obtain ⟨v17, hI⟩ := hI
    obtain ⟨v18, hI⟩ := hI
    obtain ⟨v19, hI⟩ := hI
    obtain ⟨v20, hI⟩ := hI
    obtain ⟨v21, hI⟩ := hI
    obtain ⟨v22, hI⟩ := hI
    obtain ⟨v23, hI⟩ := hI
    obtain ⟨v24, hI⟩ := hI
    obtain ⟨v25, hI⟩ := hI
    obtain ⟨v26, hI⟩ := hI
    obtain ⟨v27, hI⟩ := hI
    obtain ⟨v28, hI⟩ := hI
    obtain ⟨v29, hI⟩ := hI
    obtain ⟨v30, hI⟩ := hI
    obtain ⟨v31, hI⟩ := hI
    obtain ⟨v32, hI⟩ := hI
    obtain ⟨rfl, F⟩ := hI
    match i, hi, h0, hall with
    | 0, _, h0, hall =>
      have x := HX1.out.below F.bel
      have x_0 : w'.cell? ⟨p3, 0, none⟩ = some (.int .i64 ea.op) := x.cell 0
      have x_1 : w'.cell? ⟨p3, 1, none⟩ = some (.int .i64 ea.n) := x.cell 1
      have x_2 : w'.cell? ⟨p3, 2, none⟩ = some (.string ea.s) := x.cell 2
      have x_3 : w'.cell? ⟨p3, 3, none⟩ = some (.slice m1 ea.args.length n1) := x.cell 3
      clear x
      have HF := Lib.hid (show G _ _ _ _ _ [.agg #[.int .i64 ea.op, .int .i64 ea.n, .string ea.s, .slice m1 ea.args.length n1], v1, v2, v3, v4, v5, v6, v7, v8, v9, v10, v11, v12, v13, v14, v15, v16, v17, v18, v19, v20, v21, v22, v23, v24, v25, v26, v27, v28, v29, v30, v31, v32] from G.val hok F h0 hall (x := .agg #[.int .i64 ea.op, .int .i64 ea.n, .string ea.s, .slice m1 ea.args.length n1]) rfl (show 0 < 33 by decide) (Below.refl _ _) rfl)
      clear F hall h0
      refine wpOp_step (by rfl) (fun K' hK => ?_)
      have HKk := Lib.hid hK
      clear hK
      go_simp
      exact HKk.out _ _ ⟨.agg #[.int .i64 ea.op, .int .i64 ea.n, .string ea.s, .slice m1 ea.args.length n1], v1, v2, v3, v4, v5, v6, v7, v8, v9, v10, v11, v12, v13, v14, v15, v16, v17, v18, v19, v20, v21, v22, v23, v24, v25, v26, v27, v28, v29, v30, v31, v32, rfl, HF.out⟩
    | 1, _, h0, hall =>
      obtain rfl : v0 = .agg #[.int .i64 ea.op, .int .i64 ea.n, .string ea.s, .slice m1 ea.args.length n1] := F.fs 0 (hall 0 (by decide +kernel))
      have HF := Lib.hid (show G _ _ _ _ _ [(.agg #[.int .i64 ea.op, .int .i64 ea.n, .string ea.s, .slice m1 ea.args.length n1]), .slice (some ⟨w'.heap.size, 0, none⟩) 1 1, v2, v3, v4, v5, v6, v7, v8, v9, v10, v11, v12, v13, v14, v15, v16, v17, v18, v19, v20, v21, v22, v23, v24, v25, v26, v27, v28, v29, v30, v31, v32] from G.blk hok F h0 hall (n := 1) (c := #[.int .i64 ea.op, .int .i64 ea.n, .string ea.s, .slice m1 ea.args.length n1]) rfl (show 1 < 33 by decide) rfl)
      clear F hall h0
      refine wpOp_step (by rfl) (fun K' hK => ?_)
      have HKk := Lib.hid hK
      clear hK
      go_simp
      exact HKk.out _ _ ⟨(.agg #[.int .i64 ea.op, .int .i64 ea.n, .string ea.s, .slice m1 ea.args.length n1]), .slice (some ⟨w'.heap.size, 0, none⟩) 1 1, v2, v3, v4, v5, v6, v7, v8, v9, v10, v11, v12, v13, v14, v15, v16, v17, v18, v19, v20, v21, v22, v23, v24, v25, v26, v27, v28, v29, v30, v31, v32, rfl, HF.out⟩
    | 2, _, h0, hall =>
      obtain ⟨g1, e1, x1⟩ : ∃ q, v1 = .slice (some ⟨q, 0, none⟩) 1 1 ∧ Bx w' q #[.int .i64 ea.op, .int .i64 ea.n, .string ea.s, .slice m1 ea.args.length n1] 28 := F.fs 1 (hall 1 (by decide +kernel))
      subst e1
      have HF := Lib.hid (fun w2 (hb : Below w'.heap.size w' w2) => show G _ _ _ _ w2 [v0, (.slice (some ⟨g1, 0, none⟩) 1 1), .agg #[.int .i64 20, .int .i64 0, .string ⟨#[]⟩, (.slice (some ⟨g1, 0, none⟩) 1 1)], v3, v4, v5, v6, v7, v8, v9, v10, v11, v12, v13, v14, v15, v16, v17, v18, v19, v20, v21, v22, v23, v24, v25, v26, v27, v28, v29, v30, v31, v32] from G.val hok F h0 hall (x := .agg #[.int .i64 20, .int .i64 0, .string ⟨#[]⟩, (.slice (some ⟨g1, 0, none⟩) 1 1)]) rfl (show 2 < 33 by decide) hb rfl)
      clear F hall h0
      refine wpOp_step (by rfl) (fun K' hK => ?_)
      have HKk := Lib.hid hK
      clear hK
      go_simp
      refine (HAp.out _ _ _ _ _).mono ?_
      rintro er w2 ⟨rfl, hb⟩
      replace HF := Lib.hid (HF.out w2 hb)
      exact HKk.out _ _ ⟨v0, (.slice (some ⟨g1, 0, none⟩) 1 1), .agg #[.int .i64 20, .int .i64 0, .string ⟨#[]⟩, (.slice (some ⟨g1, 0, none⟩) 1 1)], v3, v4, v5, v6, v7, v8, v9, v10, v11, v12, v13, v14, v15, v16, v17, v18, v19, v20, v21, v22, v23, v24, v25, v26, v27, v28, v29, v30, v31, v32, rfl, HF.out⟩
    | 3, _, h0, hall =>
      obtain ⟨g1, e1, x1⟩ : ∃ q, v1 = .slice (some ⟨q, 0, none⟩) 1 1 ∧ Bx w' q #[.int .i64 ea.op, .int .i64 ea.n, .string ea.s, .slice m1 ea.args.length n1] 28 := F.fs 1 (F.cl 2 (hall 2 (by decide +kernel)) 1 (by decide +kernel))
      subst e1
      obtain rfl : v2 = .agg #[.int .i64 20, .int .i64 0, .string ⟨#[]⟩, (.slice (some ⟨g1, 0, none⟩) 1 1)] := F.fs 2 (hall 2 (by decide +kernel))
      have HC := Lib.hid (oexpr_any (u1 20 ea) (some ⟨g1, 0, none⟩) 1 (ok_un 20 (by decide) (by decide) ok1) w' (HT.out.below F.bel) (kids_1 (e := ea) x1 (HK1.out.below F.bel)))
      rw [S1.out] at HC
      have HF := Lib.hid (fun w2 (hb : Below w'.heap.size w' w2) => show G _ _ _ _ w2 [v0, (.slice (some ⟨g1, 0, none⟩) 1 1), (.agg #[.int .i64 20, .int .i64 0, .string ⟨#[]⟩, (.slice (some ⟨g1, 0, none⟩) 1 1)]), .string (⟨#[116, 101, 120, 116, 40]⟩ ++ X1 ++ ⟨#[41]⟩ : ByteArray), v4, v5, v6, v7, v8, v9, v10, v11, v12, v13, v14, v15, v16, v17, v18, v19, v20, v21, v22, v23, v24, v25, v26, v27, v28, v29, v30, v31, v32] from G.val hok F h0 hall (x := .string (⟨#[116, 101, 120, 116, 40]⟩ ++ X1 ++ ⟨#[41]⟩ : ByteArray)) rfl (show 3 < 33 by decide) hb rfl)
      clear F hall h0
      refine wpOp_step (by rfl) (fun K' hK => ?_)
      have HKk := Lib.hid hK
      clear hK
      go_simp
      refine HC.out.mono ?_
      rintro er w2 ⟨rfl, hb⟩
      replace HF := Lib.hid (HF.out w2 hb)
      exact HKk.out _ _ ⟨v0, (.slice (some ⟨g1, 0, none⟩) 1 1), (.agg #[.int .i64 20, .int .i64 0, .string ⟨#[]⟩, (.slice (some ⟨g1, 0, none⟩) 1 1)]), .string (⟨#[116, 101, 120, 116, 40]⟩ ++ X1 ++ ⟨#[41]⟩ : ByteArray), v4, v5, v6, v7, v8, v9, v10, v11, v12, v13, v14, v15, v16, v17, v18, v19, v20, v21, v22, v23, v24, v25, v26, v27, v28, v29, v30, v31, v32, rfl, HF.out⟩
    | 4, _, h0, hall =>
      have x := HX1.out.below F.bel
      have x_0 : w'.cell? ⟨p3, 0, none⟩ = some (.int .i64 ea.op) := x.cell 0
      have x_1 : w'.cell? ⟨p3, 1, none⟩ = some (.int .i64 ea.n) := x.cell 1
      have x_2 : w'.cell? ⟨p3, 2, none⟩ = some (.string ea.s) := x.cell 2
      have x_3 : w'.cell? ⟨p3, 3, none⟩ = some (.slice m1 ea.args.length n1) := x.cell 3
      clear x
      have HF := Lib.hid (show G _ _ _ _ _ [v0, v1, v2, v3, .agg #[.int .i64 ea.op, .int .i64 ea.n, .string ea.s, .slice m1 ea.args.length n1], v5, v6, v7, v8, v9, v10, v11, v12, v13, v14, v15, v16, v17, v18, v19, v20, v21, v22, v23, v24, v25, v26, v27, v28, v29, v30, v31, v32] from G.val hok F h0 hall (x := .agg #[.int .i64 ea.op, .int .i64 ea.n, .string ea.s, .slice m1 ea.args.length n1]) rfl (show 4 < 33 by decide) (Below.refl _ _) rfl)
      clear F hall h0
      refine wpOp_step (by rfl) (fun K' hK => ?_)
      have HKk := Lib.hid hK
      clear hK
      go_simp
      exact HKk.out _ _ ⟨v0, v1, v2, v3, .agg #[.int .i64 ea.op, .int .i64 ea.n, .string ea.s, .slice m1 ea.args.length n1], v5, v6, v7, v8, v9, v10, v11, v12, v13, v14, v15, v16, v17, v18, v19, v20, v21, v22, v23, v24, v25, v26, v27, v28, v29, v30, v31, v32, rfl, HF.out⟩
    | 5, _, h0, hall =>
      obtain rfl : v4 = .agg #[.int .i64 ea.op, .int .i64 ea.n, .string ea.s, .slice m1 ea.args.length n1] := F.fs 4 (hall 4 (by decide +kernel))
      have HC := Lib.hid (oexpr_any ea m1 n1 ok1 w' (HT.out.below F.bel) (HK1.out.below F.bel))
      rw [HS1.out] at HC
      unfold exV at HC
      have HF := Lib.hid (fun w2 (hb : Below w'.heap.size w' w2) => show G _ _ _ _ w2 [v0, v1, v2, v3, (.agg #[.int .i64 ea.op, .int .i64 ea.n, .string ea.s, .slice m1 ea.args.length n1]), .string X1, v6, v7, v8, v9, v10, v11, v12, v13, v14, v15, v16, v17, v18, v19, v20, v21, v22, v23, v24, v25, v26, v27, v28, v29, v30, v31, v32] from G.val hok F h0 hall (x := .string X1) rfl (show 5 < 33 by decide) hb rfl)
      clear F hall h0
      refine wpOp_step (by rfl) (fun K' hK => ?_)
      have HKk := Lib.hid hK
      clear hK
      go_simp
      refine HC.out.mono ?_
      rintro er w2 ⟨rfl, hb⟩
      replace HF := Lib.hid (HF.out w2 hb)
      exact HKk.out _ _ ⟨v0, v1, v2, v3, (.agg #[.int .i64 ea.op, .int .i64 ea.n, .string ea.s, .slice m1 ea.args.length n1]), .string X1, v6, v7, v8, v9, v10, v11, v12, v13, v14, v15, v16, v17, v18, v19, v20, v21, v22, v23, v24, v25, v26, v27, v28, v29, v30, v31, v32, rfl, HF.out⟩
    | 6, _, h0, hall =>
      obtain rfl : v5 = .string X1 := F.fs 5 (hall 5 (by decide +kernel))
      have HF := Lib.hid (show G _ _ _ _ _ [v0, v1, v2, v3, v4, (.string X1), .string (⟨#[116, 101, 120, 116, 40]⟩ ++ X1 : ByteArray), v7, v8, v9, v10, v11, v12, v13, v14, v15, v16, v17, v18, v19, v20, v21, v22, v23, v24, v25, v26, v27, v28, v29, v30, v31, v32] from G.val hok F h0 hall (x := .string (⟨#[116, 101, 120, 116, 40]⟩ ++ X1 : ByteArray)) rfl (show 6 < 33 by decide) (Below.refl _ _) rfl)
      clear F hall h0
      refine wpOp_step (by rfl) (fun K' hK => ?_)
      have HKk := Lib.hid hK
      clear hK
      go_simp
      rw [if_neg (by first | omega | (simp only [ByteArray.size_append, ByteArray.size] <;> simp <;> omega))]
      go_simp
      exact HKk.out _ _ ⟨v0, v1, v2, v3, v4, (.string X1), .string (⟨#[116, 101, 120, 116, 40]⟩ ++ X1 : ByteArray), v7, v8, v9, v10, v11, v12, v13, v14, v15, v16, v17, v18, v19, v20, v21, v22, v23, v24, v25, v26, v27, v28, v29, v30, v31, v32, rfl, HF.out⟩
    | 7, _, h0, hall =>
      obtain rfl : v6 = .string (⟨#[116, 101, 120, 116, 40]⟩ ++ X1 : ByteArray) := F.fs 6 (hall 6 (by decide +kernel))
      have HF := Lib.hid (show G _ _ _ _ _ [v0, v1, v2, v3, v4, v5, (.string (⟨#[116, 101, 120, 116, 40]⟩ ++ X1 : ByteArray)), .string (⟨#[116, 101, 120, 116, 40]⟩ ++ X1 ++ ⟨#[41]⟩ : ByteArray), v8, v9, v10, v11, v12, v13, v14, v15, v16, v17, v18, v19, v20, v21, v22, v23, v24, v25, v26, v27, v28, v29, v30, v31, v32] from G.val hok F h0 hall (x := .string (⟨#[116, 101, 120, 116, 40]⟩ ++ X1 ++ ⟨#[41]⟩ : ByteArray)) rfl (show 7 < 33 by decide) (Below.refl _ _) rfl)
      clear F hall h0
      refine wpOp_step (by rfl) (fun K' hK => ?_)
      have HKk := Lib.hid hK
      clear hK
      go_simp
      rw [if_neg (by first | omega | (simp only [ByteArray.size_append, ByteArray.size] <;> simp <;> omega))]
      go_simp
      exact HKk.out _ _ ⟨v0, v1, v2, v3, v4, v5, (.string (⟨#[116, 101, 120, 116, 40]⟩ ++ X1 : ByteArray)), .string (⟨#[116, 101, 120, 116, 40]⟩ ++ X1 ++ ⟨#[41]⟩ : ByteArray), v8, v9, v10, v11, v12, v13, v14, v15, v16, v17, v18, v19, v20, v21, v22, v23, v24, v25, v26, v27, v28, v29, v30, v31, v32, rfl, HF.out⟩
    | 8, _, h0, hall =>
      obtain rfl : v3 = .string (⟨#[116, 101, 120, 116, 40]⟩ ++ X1 ++ ⟨#[41]⟩ : ByteArray) := F.fs 3 (hall 3 (by decide +kernel))
      obtain rfl : v7 = .string (⟨#[116, 101, 120, 116, 40]⟩ ++ X1 ++ ⟨#[41]⟩ : ByteArray) := F.fs 7 (hall 7 (by decide +kernel))
      have HF := Lib.hid (show G _ _ _ _ _ [v0, v1, v2, (.string (⟨#[116, 101, 120, 116, 40]⟩ ++ X1 ++ ⟨#[41]⟩ : ByteArray)), v4, v5, v6, (.string (⟨#[116, 101, 120, 116, 40]⟩ ++ X1 ++ ⟨#[41]⟩ : ByteArray)), .bool false, v9, v10, v11, v12, v13, v14, v15, v16, v17, v18, v19, v20, v21, v22, v23, v24, v25, v26, v27, v28, v29, v30, v31, v32] from G.val hok F h0 hall (x := .bool false) rfl (show 8 < 33 by decide) (Below.refl _ _) rfl)
      clear F hall h0
      refine wpOp_step (by rfl) (fun K' hK => ?_)
      have HKk := Lib.hid hK
      clear hK
      go_simp
      exact HKk.out _ _ ⟨v0, v1, v2, (.string (⟨#[116, 101, 120, 116, 40]⟩ ++ X1 ++ ⟨#[41]⟩ : ByteArray)), v4, v5, v6, (.string (⟨#[116, 101, 120, 116, 40]⟩ ++ X1 ++ ⟨#[41]⟩ : ByteArray)), .bool false, v9, v10, v11, v12, v13, v14, v15, v16, v17, v18, v19, v20, v21, v22, v23, v24, v25, v26, v27, v28, v29, v30, v31, v32, rfl, HF.out⟩
    | 9, _, h0, hall =>
      obtain rfl : v8 = .bool false := F.fs 8 (hall 8 (by decide +kernel))
      have HF := Lib.hid (show G _ _ _ _ _ [v0, v1, v2, v3, v4, v5, v6, v7, (.bool false), .bool false, v10, v11, v12, v13, v14, v15, v16, v17, v18, v19, v20, v21, v22, v23, v24, v25, v26, v27, v28, v29, v30, v31, v32] from G.val hok F h0 hall (x := .bool false) rfl (show 9 < 33 by decide) (Below.refl _ _) rfl)
      clear F hall h0
      refine wpOp_step (by rfl) (fun K' hK => ?_)
      have HKk := Lib.hid hK
      clear hK
      go_simp
      exact HKk.out _ _ ⟨v0, v1, v2, v3, v4, v5, v6, v7, (.bool false), .bool false, v10, v11, v12, v13, v14, v15, v16, v17, v18, v19, v20, v21, v22, v23, v24, v25, v26, v27, v28, v29, v30, v31, v32, rfl, HF.out⟩
    | 10, _, h0, hall =>
      have x := HX2.out.below F.bel
      have x_0 : w'.cell? ⟨p4, 0, none⟩ = some (.int .i64 eb.op) := x.cell 0
      have x_1 : w'.cell? ⟨p4, 1, none⟩ = some (.int .i64 eb.n) := x.cell 1
      have x_2 : w'.cell? ⟨p4, 2, none⟩ = some (.string eb.s) := x.cell 2
      have x_3 : w'.cell? ⟨p4, 3, none⟩ = some (.slice m2 eb.args.length n2) := x.cell 3
      clear x
      obtain rfl : v9 = .bool false := F.fs 9 (hall 9 (by decide +kernel))
      have HF := Lib.hid (show G _ _ _ _ _ [v0, v1, v2, v3, v4, v5, v6, v7, v8, (.bool false), .agg #[.int .i64 eb.op, .int .i64 eb.n, .string eb.s, .slice m2 eb.args.length n2], v11, v12, v13, v14, v15, v16, v17, v18, v19, v20, v21, v22, v23, v24, v25, v26, v27, v28, v29, v30, v31, v32] from G.val hok F h0 hall (x := .agg #[.int .i64 eb.op, .int .i64 eb.n, .string eb.s, .slice m2 eb.args.length n2]) rfl (show 10 < 33 by decide) (Below.refl _ _) rfl)
      clear F hall h0
      refine wpOp_step (by rfl) (fun K' hK => ?_)
      have HKk := Lib.hid hK
      clear hK
      go_simp
      exact HKk.out _ _ ⟨v0, v1, v2, v3, v4, v5, v6, v7, v8, (.bool false), .agg #[.int .i64 eb.op, .int .i64 eb.n, .string eb.s, .slice m2 eb.args.length n2], v11, v12, v13, v14, v15, v16, v17, v18, v19, v20, v21, v22, v23, v24, v25, v26, v27, v28, v29, v30, v31, v32, rfl, HF.out⟩
    | 11, _, h0, hall =>
      obtain rfl : v9 = .bool false := F.fs 9 (hall 9 (by decide +kernel))
      obtain rfl : v10 = .agg #[.int .i64 eb.op, .int .i64 eb.n, .string eb.s, .slice m2 eb.args.length n2] := F.fs 10 (hall 10 (by decide +kernel))
      have HF := Lib.hid (show G _ _ _ _ _ [v0, v1, v2, v3, v4, v5, v6, v7, v8, (.bool false), (.agg #[.int .i64 eb.op, .int .i64 eb.n, .string eb.s, .slice m2 eb.args.length n2]), .slice (some ⟨w'.heap.size, 0, none⟩) 1 1, v12, v13, v14, v15, v16, v17, v18, v19, v20, v21, v22, v23, v24, v25, v26, v27, v28, v29, v30, v31, v32] from G.blk hok F h0 hall (n := 1) (c := #[.int .i64 eb.op, .int .i64 eb.n, .string eb.s, .slice m2 eb.args.length n2]) rfl (show 11 < 33 by decide) rfl)
      clear F hall h0
      refine wpOp_step (by rfl) (fun K' hK => ?_)
      have HKk := Lib.hid hK
      clear hK
      go_simp
      exact HKk.out _ _ ⟨v0, v1, v2, v3, v4, v5, v6, v7, v8, (.bool false), (.agg #[.int .i64 eb.op, .int .i64 eb.n, .string eb.s, .slice m2 eb.args.length n2]), .slice (some ⟨w'.heap.size, 0, none⟩) 1 1, v12, v13, v14, v15, v16, v17, v18, v19, v20, v21, v22, v23, v24, v25, v26, v27, v28, v29, v30, v31, v32, rfl, HF.out⟩
    | 12, _, h0, hall =>
      obtain rfl : v9 = .bool false := F.fs 9 (hall 9 (by decide +kernel))
      obtain ⟨g11, e11, x11⟩ : ∃ q, v11 = .slice (some ⟨q, 0, none⟩) 1 1 ∧ Bx w' q #[.int .i64 eb.op, .int .i64 eb.n, .string eb.s, .slice m2 eb.args.length n2] 28 := F.fs 11 (hall 11 (by decide +kernel))
      subst e11
      have HF := Lib.hid (fun w2 (hb : Below w'.heap.size w' w2) => show G _ _ _ _ w2 [v0, v1, v2, v3, v4, v5, v6, v7, v8, (.bool false), v10, (.slice (some ⟨g11, 0, none⟩) 1 1), .agg #[.int .i64 24, .int .i64 0, .string ⟨#[]⟩, (.slice (some ⟨g11, 0, none⟩) 1 1)], v13, v14, v15, v16, v17, v18, v19, v20, v21, v22, v23, v24, v25, v26, v27, v28, v29, v30, v31, v32] from G.val hok F h0 hall (x := .agg #[.int .i64 24, .int .i64 0, .string ⟨#[]⟩, (.slice (some ⟨g11, 0, none⟩) 1 1)]) rfl (show 12 < 33 by decide) hb rfl)
      clear F hall h0
      refine wpOp_step (by rfl) (fun K' hK => ?_)
      have HKk := Lib.hid hK
      clear hK
      go_simp
      refine (HAp.out _ _ _ _ _).mono ?_
      rintro er w2 ⟨rfl, hb⟩
      replace HF := Lib.hid (HF.out w2 hb)
      exact HKk.out _ _ ⟨v0, v1, v2, v3, v4, v5, v6, v7, v8, (.bool false), v10, (.slice (some ⟨g11, 0, none⟩) 1 1), .agg #[.int .i64 24, .int .i64 0, .string ⟨#[]⟩, (.slice (some ⟨g11, 0, none⟩) 1 1)], v13, v14, v15, v16, v17, v18, v19, v20, v21, v22, v23, v24, v25, v26, v27, v28, v29, v30, v31, v32, rfl, HF.out⟩
    | 13, _, h0, hall =>
      obtain rfl : v9 = .bool false := F.fs 9 (hall 9 (by decide +kernel))
      obtain ⟨g11, e11, x11⟩ : ∃ q, v11 = .slice (some ⟨q, 0, none⟩) 1 1 ∧ Bx w' q #[.int .i64 eb.op, .int .i64 eb.n, .string eb.s, .slice m2 eb.args.length n2] 28 := F.fs 11 (F.cl 12 (hall 12 (by decide +kernel)) 11 (by decide +kernel))
      subst e11
      obtain rfl : v12 = .agg #[.int .i64 24, .int .i64 0, .string ⟨#[]⟩, (.slice (some ⟨g11, 0, none⟩) 1 1)] := F.fs 12 (hall 12 (by decide +kernel))
      have HC := Lib.hid (oexpr_any (u1 24 eb) (some ⟨g11, 0, none⟩) 1 (ok_un 24 (by decide) (by decide) ok2) w' (HT.out.below F.bel) (kids_1 (e := eb) x11 (HK2.out.below F.bel)))
      rw [S2.out] at HC
      have HF := Lib.hid (fun w2 (hb : Below w'.heap.size w' w2) => show G _ _ _ _ w2 [v0, v1, v2, v3, v4, v5, v6, v7, v8, (.bool false), v10, (.slice (some ⟨g11, 0, none⟩) 1 1), (.agg #[.int .i64 24, .int .i64 0, .string ⟨#[]⟩, (.slice (some ⟨g11, 0, none⟩) 1 1)]), .string (⟨#[104, 97, 115, 40]⟩ ++ X2 ++ ⟨#[41]⟩ : ByteArray), v14, v15, v16, v17, v18, v19, v20, v21, v22, v23, v24, v25, v26, v27, v28, v29, v30, v31, v32] from G.val hok F h0 hall (x := .string (⟨#[104, 97, 115, 40]⟩ ++ X2 ++ ⟨#[41]⟩ : ByteArray)) rfl (show 13 < 33 by decide) hb rfl)
      clear F hall h0
      refine wpOp_step (by rfl) (fun K' hK => ?_)
      have HKk := Lib.hid hK
      clear hK
      go_simp
      refine HC.out.mono ?_
      rintro er w2 ⟨rfl, hb⟩
      replace HF := Lib.hid (HF.out w2 hb)
      exact HKk.out _ _ ⟨v0, v1, v2, v3, v4, v5, v6, v7, v8, (.bool false), v10, (.slice (some ⟨g11, 0, none⟩) 1 1), (.agg #[.int .i64 24, .int .i64 0, .string ⟨#[]⟩, (.slice (some ⟨g11, 0, none⟩) 1 1)]), .string (⟨#[104, 97, 115, 40]⟩ ++ X2 ++ ⟨#[41]⟩ : ByteArray), v14, v15, v16, v17, v18, v19, v20, v21, v22, v23, v24, v25, v26, v27, v28, v29, v30, v31, v32, rfl, HF.out⟩
    | 14, _, h0, hall =>
      have x := HX2.out.below F.bel
      have x_0 : w'.cell? ⟨p4, 0, none⟩ = some (.int .i64 eb.op) := x.cell 0
      have x_1 : w'.cell? ⟨p4, 1, none⟩ = some (.int .i64 eb.n) := x.cell 1
      have x_2 : w'.cell? ⟨p4, 2, none⟩ = some (.string eb.s) := x.cell 2
      have x_3 : w'.cell? ⟨p4, 3, none⟩ = some (.slice m2 eb.args.length n2) := x.cell 3
      clear x
      obtain rfl : v9 = .bool false := F.fs 9 (hall 9 (by decide +kernel))
      have HF := Lib.hid (show G _ _ _ _ _ [v0, v1, v2, v3, v4, v5, v6, v7, v8, (.bool false), v10, v11, v12, v13, .agg #[.int .i64 eb.op, .int .i64 eb.n, .string eb.s, .slice m2 eb.args.length n2], v15, v16, v17, v18, v19, v20, v21, v22, v23, v24, v25, v26, v27, v28, v29, v30, v31, v32] from G.val hok F h0 hall (x := .agg #[.int .i64 eb.op, .int .i64 eb.n, .string eb.s, .slice m2 eb.args.length n2]) rfl (show 14 < 33 by decide) (Below.refl _ _) rfl)
      clear F hall h0
      refine wpOp_step (by rfl) (fun K' hK => ?_)
      have HKk := Lib.hid hK
      clear hK
      go_simp
      exact HKk.out _ _ ⟨v0, v1, v2, v3, v4, v5, v6, v7, v8, (.bool false), v10, v11, v12, v13, .agg #[.int .i64 eb.op, .int .i64 eb.n, .string eb.s, .slice m2 eb.args.length n2], v15, v16, v17, v18, v19, v20, v21, v22, v23, v24, v25, v26, v27, v28, v29, v30, v31, v32, rfl, HF.out⟩
    | 15, _, h0, hall =>
      obtain rfl : v9 = .bool false := F.fs 9 (hall 9 (by decide +kernel))
      obtain rfl : v14 = .agg #[.int .i64 eb.op, .int .i64 eb.n, .string eb.s, .slice m2 eb.args.length n2] := F.fs 14 (hall 14 (by decide +kernel))
      have HC := Lib.hid (oexpr_any eb m2 n2 ok2 w' (HT.out.below F.bel) (HK2.out.below F.bel))
      rw [HS2.out] at HC
      unfold exV at HC
      have HF := Lib.hid (fun w2 (hb : Below w'.heap.size w' w2) => show G _ _ _ _ w2 [v0, v1, v2, v3, v4, v5, v6, v7, v8, (.bool false), v10, v11, v12, v13, (.agg #[.int .i64 eb.op, .int .i64 eb.n, .string eb.s, .slice m2 eb.args.length n2]), .string X2, v16, v17, v18, v19, v20, v21, v22, v23, v24, v25, v26, v27, v28, v29, v30, v31, v32] from G.val hok F h0 hall (x := .string X2) rfl (show 15 < 33 by decide) hb rfl)
      clear F hall h0
      refine wpOp_step (by rfl) (fun K' hK => ?_)
      have HKk := Lib.hid hK
      clear hK
      go_simp
      refine HC.out.mono ?_
      rintro er w2 ⟨rfl, hb⟩
      replace HF := Lib.hid (HF.out w2 hb)
      exact HKk.out _ _ ⟨v0, v1, v2, v3, v4, v5, v6, v7, v8, (.bool false), v10, v11, v12, v13, (.agg #[.int .i64 eb.op, .int .i64 eb.n, .string eb.s, .slice m2 eb.args.length n2]), .string X2, v16, v17, v18, v19, v20, v21, v22, v23, v24, v25, v26, v27, v28, v29, v30, v31, v32, rfl, HF.out⟩
    | 16, _, h0, hall =>
      obtain rfl : v15 = .string X2 := F.fs 15 (hall 15 (by decide +kernel))
      obtain rfl : v9 = .bool false := F.fs 9 (hall 9 (by decide +kernel))
      have HF := Lib.hid (show G _ _ _ _ _ [v0, v1, v2, v3, v4, v5, v6, v7, v8, (.bool false), v10, v11, v12, v13, v14, (.string X2), .string (⟨#[104, 97, 115, 40]⟩ ++ X2 : ByteArray), v17, v18, v19, v20, v21, v22, v23, v24, v25, v26, v27, v28, v29, v30, v31, v32] from G.val hok F h0 hall (x := .string (⟨#[104, 97, 115, 40]⟩ ++ X2 : ByteArray)) rfl (show 16 < 33 by decide) (Below.refl _ _) rfl)
      clear F hall h0
      refine wpOp_step (by rfl) (fun K' hK => ?_)
      have HKk := Lib.hid hK
      clear hK
      go_simp
      rw [if_neg (by first | omega | (simp only [ByteArray.size_append, ByteArray.size] <;> simp <;> omega))]
      go_simp
      exact HKk.out _ _ ⟨v0, v1, v2, v3, v4, v5, v6, v7, v8, (.bool false), v10, v11, v12, v13, v14, (.string X2), .string (⟨#[104, 97, 115, 40]⟩ ++ X2 : ByteArray), v17, v18, v19, v20, v21, v22, v23, v24, v25, v26, v27, v28, v29, v30, v31, v32, rfl, HF.out⟩
    | 17, _, h0, hall =>
      obtain rfl : v16 = .string (⟨#[104, 97, 115, 40]⟩ ++ X2 : ByteArray) := F.fs 16 (hall 16 (by decide +kernel))
      obtain rfl : v9 = .bool false := F.fs 9 (hall 9 (by decide +kernel))
      have HF := Lib.hid (show G _ _ _ _ _ [v0, v1, v2, v3, v4, v5, v6, v7, v8, (.bool false), v10, v11, v12, v13, v14, v15, (.string (⟨#[104, 97, 115, 40]⟩ ++ X2 : ByteArray)), .string (⟨#[104, 97, 115, 40]⟩ ++ X2 ++ ⟨#[41]⟩ : ByteArray), v18, v19, v20, v21, v22, v23, v24, v25, v26, v27, v28, v29, v30, v31, v32] from G.val hok F h0 hall (x := .string (⟨#[104, 97, 115, 40]⟩ ++ X2 ++ ⟨#[41]⟩ : ByteArray)) rfl (show 17 < 33 by decide) (Below.refl _ _) rfl)
      clear F hall h0
      refine wpOp_step (by rfl) (fun K' hK => ?_)
      have HKk := Lib.hid hK
      clear hK
      go_simp
      rw [if_neg (by first | omega | (simp only [ByteArray.size_append, ByteArray.size] <;> simp <;> omega))]
      go_simp
      exact HKk.out _ _ ⟨v0, v1, v2, v3, v4, v5, v6, v7, v8, (.bool false), v10, v11, v12, v13, v14, v15, (.string (⟨#[104, 97, 115, 40]⟩ ++ X2 : ByteArray)), .string (⟨#[104, 97, 115, 40]⟩ ++ X2 ++ ⟨#[41]⟩ : ByteArray), v18, v19, v20, v21, v22, v23, v24, v25, v26, v27, v28, v29, v30, v31, v32, rfl, HF.out⟩
    | 18, _, h0, hall =>
      obtain rfl : v13 = .string (⟨#[104, 97, 115, 40]⟩ ++ X2 ++ ⟨#[41]⟩ : ByteArray) := F.fs 13 (hall 13 (by decide +kernel))
      obtain rfl : v17 = .string (⟨#[104, 97, 115, 40]⟩ ++ X2 ++ ⟨#[41]⟩ : ByteArray) := F.fs 17 (hall 17 (by decide +kernel))
      obtain rfl : v9 = .bool false := F.fs 9 (hall 9 (by decide +kernel))
      have HF := Lib.hid (show G _ _ _ _ _ [v0, v1, v2, v3, v4, v5, v6, v7, v8, (.bool false), v10, v11, v12, (.string (⟨#[104, 97, 115, 40]⟩ ++ X2 ++ ⟨#[41]⟩ : ByteArray)), v14, v15, v16, (.string (⟨#[104, 97, 115, 40]⟩ ++ X2 ++ ⟨#[41]⟩ : ByteArray)), .bool false, v19, v20, v21, v22, v23, v24, v25, v26, v27, v28, v29, v30, v31, v32] from G.val hok F h0 hall (x := .bool false) rfl (show 18 < 33 by decide) (Below.refl _ _) rfl)
      clear F hall h0
      refine wpOp_step (by rfl) (fun K' hK => ?_)
      have HKk := Lib.hid hK
      clear hK
      go_simp
      exact HKk.out _ _ ⟨v0, v1, v2, v3, v4, v5, v6, v7, v8, (.bool false), v10, v11, v12, (.string (⟨#[104, 97, 115, 40]⟩ ++ X2 ++ ⟨#[41]⟩ : ByteArray)), v14, v15, v16, (.string (⟨#[104, 97, 115, 40]⟩ ++ X2 ++ ⟨#[41]⟩ : ByteArray)), .bool false, v19, v20, v21, v22, v23, v24, v25, v26, v27, v28, v29, v30, v31, v32, rfl, HF.out⟩
    | 19, _, h0, hall =>
      obtain rfl : v9 = .bool false := F.fs 9 (hall 9 (by decide +kernel))
      obtain rfl : v18 = .bool false := F.fs 18 (hall 18 (by decide +kernel))
      have HF := Lib.hid (show G _ _ _ _ _ [v0, v1, v2, v3, v4, v5, v6, v7, v8, (.bool false), v10, v11, v12, v13, v14, v15, v16, v17, (.bool false), .bool false, v20, v21, v22, v23, v24, v25, v26, v27, v28, v29, v30, v31, v32] from G.val hok F h0 hall (x := .bool false) rfl (show 19 < 33 by decide) (Below.refl _ _) rfl)
      clear F hall h0
      refine wpOp_step (by rfl) (fun K' hK => ?_)
      have HKk := Lib.hid hK
      clear hK
      go_simp
      exact HKk.out _ _ ⟨v0, v1, v2, v3, v4, v5, v6, v7, v8, (.bool false), v10, v11, v12, v13, v14, v15, v16, v17, (.bool false), .bool false, v20, v21, v22, v23, v24, v25, v26, v27, v28, v29, v30, v31, v32, rfl, HF.out⟩
    | 20, _, h0, hall =>
      obtain rfl : v19 = .bool false := F.fs 19 (hall 19 (by decide +kernel))
      have HF := Lib.hid (show G _ _ _ _ _ [v0, v1, v2, v3, v4, v5, v6, v7, v8, v9, v10, v11, v12, v13, v14, v15, v16, v17, v18, (.bool false), .bool false, v21, v22, v23, v24, v25, v26, v27, v28, v29, v30, v31, v32] from G.val hok F h0 hall (x := .bool false) rfl (show 20 < 33 by decide) (Below.refl _ _) rfl)
      clear F hall h0
      refine wpOp_step (by rfl) (fun K' hK => ?_)
      have HKk := Lib.hid hK
      clear hK
      go_simp
      exact HKk.out _ _ ⟨v0, v1, v2, v3, v4, v5, v6, v7, v8, v9, v10, v11, v12, v13, v14, v15, v16, v17, v18, (.bool false), .bool false, v21, v22, v23, v24, v25, v26, v27, v28, v29, v30, v31, v32, rfl, HF.out⟩
    | 21, _, h0, hall =>
      have x := HX3.out.below F.bel
      have x_0 : w'.cell? ⟨p5, 0, none⟩ = some (.int .i64 ec.op) := x.cell 0
      have x_1 : w'.cell? ⟨p5, 1, none⟩ = some (.int .i64 ec.n) := x.cell 1
      have x_2 : w'.cell? ⟨p5, 2, none⟩ = some (.string ec.s) := x.cell 2
      have x_3 : w'.cell? ⟨p5, 3, none⟩ = some (.slice m3 ec.args.length n3) := x.cell 3
      clear x
      obtain rfl : v20 = .bool false := F.fs 20 (hall 20 (by decide +kernel))
      have HF := Lib.hid (show G _ _ _ _ _ [v0, v1, v2, v3, v4, v5, v6, v7, v8, v9, v10, v11, v12, v13, v14, v15, v16, v17, v18, v19, (.bool false), .agg #[.int .i64 ec.op, .int .i64 ec.n, .string ec.s, .slice m3 ec.args.length n3], v22, v23, v24, v25, v26, v27, v28, v29, v30, v31, v32] from G.val hok F h0 hall (x := .agg #[.int .i64 ec.op, .int .i64 ec.n, .string ec.s, .slice m3 ec.args.length n3]) rfl (show 21 < 33 by decide) (Below.refl _ _) rfl)
      clear F hall h0
      refine wpOp_step (by rfl) (fun K' hK => ?_)
      have HKk := Lib.hid hK
      clear hK
      go_simp
      exact HKk.out _ _ ⟨v0, v1, v2, v3, v4, v5, v6, v7, v8, v9, v10, v11, v12, v13, v14, v15, v16, v17, v18, v19, (.bool false), .agg #[.int .i64 ec.op, .int .i64 ec.n, .string ec.s, .slice m3 ec.args.length n3], v22, v23, v24, v25, v26, v27, v28, v29, v30, v31, v32, rfl, HF.out⟩
    | 22, _, h0, hall =>
      obtain rfl : v20 = .bool false := F.fs 20 (hall 20 (by decide +kernel))
      obtain rfl : v21 = .agg #[.int .i64 ec.op, .int .i64 ec.n, .string ec.s, .slice m3 ec.args.length n3] := F.fs 21 (hall 21 (by decide +kernel))
      have HF := Lib.hid (show G _ _ _ _ _ [v0, v1, v2, v3, v4, v5, v6, v7, v8, v9, v10, v11, v12, v13, v14, v15, v16, v17, v18, v19, (.bool false), (.agg #[.int .i64 ec.op, .int .i64 ec.n, .string ec.s, .slice m3 ec.args.length n3]), .slice (some ⟨w'.heap.size, 0, none⟩) 1 1, v23, v24, v25, v26, v27, v28, v29, v30, v31, v32] from G.blk hok F h0 hall (n := 1) (c := #[.int .i64 ec.op, .int .i64 ec.n, .string ec.s, .slice m3 ec.args.length n3]) rfl (show 22 < 33 by decide) rfl)
      clear F hall h0
      refine wpOp_step (by rfl) (fun K' hK => ?_)
      have HKk := Lib.hid hK
      clear hK
      go_simp
      exact HKk.out _ _ ⟨v0, v1, v2, v3, v4, v5, v6, v7, v8, v9, v10, v11, v12, v13, v14, v15, v16, v17, v18, v19, (.bool false), (.agg #[.int .i64 ec.op, .int .i64 ec.n, .string ec.s, .slice m3 ec.args.length n3]), .slice (some ⟨w'.heap.size, 0, none⟩) 1 1, v23, v24, v25, v26, v27, v28, v29, v30, v31, v32, rfl, HF.out⟩
    | 23, _, h0, hall =>
      obtain rfl : v20 = .bool false := F.fs 20 (hall 20 (by decide +kernel))
      obtain ⟨g22, e22, x22⟩ : ∃ q, v22 = .slice (some ⟨q, 0, none⟩) 1 1 ∧ Bx w' q #[.int .i64 ec.op, .int .i64 ec.n, .string ec.s, .slice m3 ec.args.length n3] 28 := F.fs 22 (hall 22 (by decide +kernel))
      subst e22
      have HF := Lib.hid (fun w2 (hb : Below w'.heap.size w' w2) => show G _ _ _ _ w2 [v0, v1, v2, v3, v4, v5, v6, v7, v8, v9, v10, v11, v12, v13, v14, v15, v16, v17, v18, v19, (.bool false), v21, (.slice (some ⟨g22, 0, none⟩) 1 1), .agg #[.int .i64 21, .int .i64 0, .string ⟨#[]⟩, (.slice (some ⟨g22, 0, none⟩) 1 1)], v24, v25, v26, v27, v28, v29, v30, v31, v32] from G.val hok F h0 hall (x := .agg #[.int .i64 21, .int .i64 0, .string ⟨#[]⟩, (.slice (some ⟨g22, 0, none⟩) 1 1)]) rfl (show 23 < 33 by decide) hb rfl)
      clear F hall h0
      refine wpOp_step (by rfl) (fun K' hK => ?_)
      have HKk := Lib.hid hK
      clear hK
      go_simp
      refine (HAp.out _ _ _ _ _).mono ?_
      rintro er w2 ⟨rfl, hb⟩
      replace HF := Lib.hid (HF.out w2 hb)
      exact HKk.out _ _ ⟨v0, v1, v2, v3, v4, v5, v6, v7, v8, v9, v10, v11, v12, v13, v14, v15, v16, v17, v18, v19, (.bool false), v21, (.slice (some ⟨g22, 0, none⟩) 1 1), .agg #[.int .i64 21, .int .i64 0, .string ⟨#[]⟩, (.slice (some ⟨g22, 0, none⟩) 1 1)], v24, v25, v26, v27, v28, v29, v30, v31, v32, rfl, HF.out⟩
    | 24, _, h0, hall =>
      obtain rfl : v20 = .bool false := F.fs 20 (hall 20 (by decide +kernel))
      obtain ⟨g22, e22, x22⟩ : ∃ q, v22 = .slice (some ⟨q, 0, none⟩) 1 1 ∧ Bx w' q #[.int .i64 ec.op, .int .i64 ec.n, .string ec.s, .slice m3 ec.args.length n3] 28 := F.fs 22 (F.cl 23 (hall 23 (by decide +kernel)) 22 (by decide +kernel))
      subst e22
      obtain rfl : v23 = .agg #[.int .i64 21, .int .i64 0, .string ⟨#[]⟩, (.slice (some ⟨g22, 0, none⟩) 1 1)] := F.fs 23 (hall 23 (by decide +kernel))
      have HF := Lib.hid (show G _ _ _ _ _ [v0, v1, v2, v3, v4, v5, v6, v7, v8, v9, v10, v11, v12, v13, v14, v15, v16, v17, v18, v19, (.bool false), v21, (.slice (some ⟨g22, 0, none⟩) 1 1), (.agg #[.int .i64 21, .int .i64 0, .string ⟨#[]⟩, (.slice (some ⟨g22, 0, none⟩) 1 1)]), .slice (some ⟨w'.heap.size, 0, none⟩) 1 1, v25, v26, v27, v28, v29, v30, v31, v32] from G.blk hok F h0 hall (n := 1) (c := #[.int .i64 21, .int .i64 0, .string ⟨#[]⟩, (.slice (some ⟨g22, 0, none⟩) 1 1)]) rfl (show 24 < 33 by decide) rfl)
      clear F hall h0
      refine wpOp_step (by rfl) (fun K' hK => ?_)
      have HKk := Lib.hid hK
      clear hK
      go_simp
      exact HKk.out _ _ ⟨v0, v1, v2, v3, v4, v5, v6, v7, v8, v9, v10, v11, v12, v13, v14, v15, v16, v17, v18, v19, (.bool false), v21, (.slice (some ⟨g22, 0, none⟩) 1 1), (.agg #[.int .i64 21, .int .i64 0, .string ⟨#[]⟩, (.slice (some ⟨g22, 0, none⟩) 1 1)]), .slice (some ⟨w'.heap.size, 0, none⟩) 1 1, v25, v26, v27, v28, v29, v30, v31, v32, rfl, HF.out⟩
    | 25, _, h0, hall =>
      obtain rfl : v20 = .bool false := F.fs 20 (hall 20 (by decide +kernel))
      obtain ⟨g22, e22, x22⟩ : ∃ q, v22 = .slice (some ⟨q, 0, none⟩) 1 1 ∧ Bx w' q #[.int .i64 ec.op, .int .i64 ec.n, .string ec.s, .slice m3 ec.args.length n3] 28 := F.fs 22 (F.cl 23 (F.cl 24 (hall 24 (by decide +kernel)) 23 (by decide +kernel)) 22 (by decide +kernel))
      subst e22
      obtain ⟨g24, e24, x24⟩ : ∃ q, v24 = .slice (some ⟨q, 0, none⟩) 1 1 ∧ Bx w' q #[.int .i64 21, .int .i64 0, .string ⟨#[]⟩, (.slice (some ⟨g22, 0, none⟩) 1 1)] 28 := F.fs 24 (hall 24 (by decide +kernel))
      subst e24
      have HF := Lib.hid (fun w2 (hb : Below w'.heap.size w' w2) => show G _ _ _ _ w2 [v0, v1, v2, v3, v4, v5, v6, v7, v8, v9, v10, v11, v12, v13, v14, v15, v16, v17, v18, v19, (.bool false), v21, (.slice (some ⟨g22, 0, none⟩) 1 1), v23, (.slice (some ⟨g24, 0, none⟩) 1 1), .agg #[.int .i64 18, .int .i64 0, .string ⟨#[]⟩, (.slice (some ⟨g24, 0, none⟩) 1 1)], v26, v27, v28, v29, v30, v31, v32] from G.val hok F h0 hall (x := .agg #[.int .i64 18, .int .i64 0, .string ⟨#[]⟩, (.slice (some ⟨g24, 0, none⟩) 1 1)]) rfl (show 25 < 33 by decide) hb rfl)
      clear F hall h0
      refine wpOp_step (by rfl) (fun K' hK => ?_)
      have HKk := Lib.hid hK
      clear hK
      go_simp
      refine (HAp.out _ _ _ _ _).mono ?_
      rintro er w2 ⟨rfl, hb⟩
      replace HF := Lib.hid (HF.out w2 hb)
      exact HKk.out _ _ ⟨v0, v1, v2, v3, v4, v5, v6, v7, v8, v9, v10, v11, v12, v13, v14, v15, v16, v17, v18, v19, (.bool false), v21, (.slice (some ⟨g22, 0, none⟩) 1 1), v23, (.slice (some ⟨g24, 0, none⟩) 1 1), .agg #[.int .i64 18, .int .i64 0, .string ⟨#[]⟩, (.slice (some ⟨g24, 0, none⟩) 1 1)], v26, v27, v28, v29, v30, v31, v32, rfl, HF.out⟩
    | 26, _, h0, hall =>
      obtain rfl : v20 = .bool false := F.fs 20 (hall 20 (by decide +kernel))
      obtain ⟨g22, e22, x22⟩ : ∃ q, v22 = .slice (some ⟨q, 0, none⟩) 1 1 ∧ Bx w' q #[.int .i64 ec.op, .int .i64 ec.n, .string ec.s, .slice m3 ec.args.length n3] 28 := F.fs 22 (F.cl 23 (F.cl 24 (F.cl 25 (hall 25 (by decide +kernel)) 24 (by decide +kernel)) 23 (by decide +kernel)) 22 (by decide +kernel))
      subst e22
      obtain ⟨g24, e24, x24⟩ : ∃ q, v24 = .slice (some ⟨q, 0, none⟩) 1 1 ∧ Bx w' q #[.int .i64 21, .int .i64 0, .string ⟨#[]⟩, (.slice (some ⟨g22, 0, none⟩) 1 1)] 28 := F.fs 24 (F.cl 25 (hall 25 (by decide +kernel)) 24 (by decide +kernel))
      subst e24
      obtain rfl : v25 = .agg #[.int .i64 18, .int .i64 0, .string ⟨#[]⟩, (.slice (some ⟨g24, 0, none⟩) 1 1)] := F.fs 25 (hall 25 (by decide +kernel))
      have HC := Lib.hid (oexpr_any (u1 18 (u1 21 ec)) (some ⟨g24, 0, none⟩) 1 (ok_un 18 (by decide) (by decide) (ok_un 21 (by decide) (by decide) ok3)) w' (HT.out.below F.bel) (kids_1 (e := (u1 21 ec)) x24 (kids_1 (e := ec) x22 (HK3.out.below F.bel))))
      rw [S3.out] at HC
      have HF := Lib.hid (fun w2 (hb : Below w'.heap.size w' w2) => show G _ _ _ _ w2 [v0, v1, v2, v3, v4, v5, v6, v7, v8, v9, v10, v11, v12, v13, v14, v15, v16, v17, v18, v19, (.bool false), v21, (.slice (some ⟨g22, 0, none⟩) 1 1), v23, (.slice (some ⟨g24, 0, none⟩) 1 1), (.agg #[.int .i64 18, .int .i64 0, .string ⟨#[]⟩, (.slice (some ⟨g24, 0, none⟩) 1 1)]), .string (⟨#[110, 111, 116, 32, 108, 101, 110, 40]⟩ ++ X3 ++ ⟨#[41]⟩ : ByteArray), v27, v28, v29, v30, v31, v32] from G.val hok F h0 hall (x := .string (⟨#[110, 111, 116, 32, 108, 101, 110, 40]⟩ ++ X3 ++ ⟨#[41]⟩ : ByteArray)) rfl (show 26 < 33 by decide) hb rfl)
      clear F hall h0
      refine wpOp_step (by rfl) (fun K' hK => ?_)
      have HKk := Lib.hid hK
      clear hK
      go_simp
      refine HC.out.mono ?_
      rintro er w2 ⟨rfl, hb⟩
      replace HF := Lib.hid (HF.out w2 hb)
      exact HKk.out _ _ ⟨v0, v1, v2, v3, v4, v5, v6, v7, v8, v9, v10, v11, v12, v13, v14, v15, v16, v17, v18, v19, (.bool false), v21, (.slice (some ⟨g22, 0, none⟩) 1 1), v23, (.slice (some ⟨g24, 0, none⟩) 1 1), (.agg #[.int .i64 18, .int .i64 0, .string ⟨#[]⟩, (.slice (some ⟨g24, 0, none⟩) 1 1)]), .string (⟨#[110, 111, 116, 32, 108, 101, 110, 40]⟩ ++ X3 ++ ⟨#[41]⟩ : ByteArray), v27, v28, v29, v30, v31, v32, rfl, HF.out⟩
    | 27, _, h0, hall =>
      have x := HX3.out.below F.bel
      have x_0 : w'.cell? ⟨p5, 0, none⟩ = some (.int .i64 ec.op) := x.cell 0
      have x_1 : w'.cell? ⟨p5, 1, none⟩ = some (.int .i64 ec.n) := x.cell 1
      have x_2 : w'.cell? ⟨p5, 2, none⟩ = some (.string ec.s) := x.cell 2
      have x_3 : w'.cell? ⟨p5, 3, none⟩ = some (.slice m3 ec.args.length n3) := x.cell 3
      clear x
      obtain rfl : v20 = .bool false := F.fs 20 (hall 20 (by decide +kernel))
      have HF := Lib.hid (show G _ _ _ _ _ [v0, v1, v2, v3, v4, v5, v6, v7, v8, v9, v10, v11, v12, v13, v14, v15, v16, v17, v18, v19, (.bool false), v21, v22, v23, v24, v25, v26, .agg #[.int .i64 ec.op, .int .i64 ec.n, .string ec.s, .slice m3 ec.args.length n3], v28, v29, v30, v31, v32] from G.val hok F h0 hall (x := .agg #[.int .i64 ec.op, .int .i64 ec.n, .string ec.s, .slice m3 ec.args.length n3]) rfl (show 27 < 33 by decide) (Below.refl _ _) rfl)
      clear F hall h0
      refine wpOp_step (by rfl) (fun K' hK => ?_)
      have HKk := Lib.hid hK
      clear hK
      go_simp
      exact HKk.out _ _ ⟨v0, v1, v2, v3, v4, v5, v6, v7, v8, v9, v10, v11, v12, v13, v14, v15, v16, v17, v18, v19, (.bool false), v21, v22, v23, v24, v25, v26, .agg #[.int .i64 ec.op, .int .i64 ec.n, .string ec.s, .slice m3 ec.args.length n3], v28, v29, v30, v31, v32, rfl, HF.out⟩
    | 28, _, h0, hall =>
      obtain rfl : v20 = .bool false := F.fs 20 (hall 20 (by decide +kernel))
      obtain rfl : v27 = .agg #[.int .i64 ec.op, .int .i64 ec.n, .string ec.s, .slice m3 ec.args.length n3] := F.fs 27 (hall 27 (by decide +kernel))
      have HC := Lib.hid (oexpr_any ec m3 n3 ok3 w' (HT.out.below F.bel) (HK3.out.below F.bel))
      rw [HS3.out] at HC
      unfold exV at HC
      have HF := Lib.hid (fun w2 (hb : Below w'.heap.size w' w2) => show G _ _ _ _ w2 [v0, v1, v2, v3, v4, v5, v6, v7, v8, v9, v10, v11, v12, v13, v14, v15, v16, v17, v18, v19, (.bool false), v21, v22, v23, v24, v25, v26, (.agg #[.int .i64 ec.op, .int .i64 ec.n, .string ec.s, .slice m3 ec.args.length n3]), .string X3, v29, v30, v31, v32] from G.val hok F h0 hall (x := .string X3) rfl (show 28 < 33 by decide) hb rfl)
      clear F hall h0
      refine wpOp_step (by rfl) (fun K' hK => ?_)
      have HKk := Lib.hid hK
      clear hK
      go_simp
      refine HC.out.mono ?_
      rintro er w2 ⟨rfl, hb⟩
      replace HF := Lib.hid (HF.out w2 hb)
      exact HKk.out _ _ ⟨v0, v1, v2, v3, v4, v5, v6, v7, v8, v9, v10, v11, v12, v13, v14, v15, v16, v17, v18, v19, (.bool false), v21, v22, v23, v24, v25, v26, (.agg #[.int .i64 ec.op, .int .i64 ec.n, .string ec.s, .slice m3 ec.args.length n3]), .string X3, v29, v30, v31, v32, rfl, HF.out⟩
    | 29, _, h0, hall =>
      obtain rfl : v28 = .string X3 := F.fs 28 (hall 28 (by decide +kernel))
      obtain rfl : v20 = .bool false := F.fs 20 (hall 20 (by decide +kernel))
      have HF := Lib.hid (show G _ _ _ _ _ [v0, v1, v2, v3, v4, v5, v6, v7, v8, v9, v10, v11, v12, v13, v14, v15, v16, v17, v18, v19, (.bool false), v21, v22, v23, v24, v25, v26, v27, (.string X3), .string (⟨#[110, 111, 116, 32, 108, 101, 110, 40]⟩ ++ X3 : ByteArray), v30, v31, v32] from G.val hok F h0 hall (x := .string (⟨#[110, 111, 116, 32, 108, 101, 110, 40]⟩ ++ X3 : ByteArray)) rfl (show 29 < 33 by decide) (Below.refl _ _) rfl)
      clear F hall h0
      refine wpOp_step (by rfl) (fun K' hK => ?_)
      have HKk := Lib.hid hK
      clear hK
      go_simp
      rw [if_neg (by first | omega | (simp only [ByteArray.size_append, ByteArray.size] <;> simp <;> omega))]
      go_simp
      exact HKk.out _ _ ⟨v0, v1, v2, v3, v4, v5, v6, v7, v8, v9, v10, v11, v12, v13, v14, v15, v16, v17, v18, v19, (.bool false), v21, v22, v23, v24, v25, v26, v27, (.string X3), .string (⟨#[110, 111, 116, 32, 108, 101, 110, 40]⟩ ++ X3 : ByteArray), v30, v31, v32, rfl, HF.out⟩
    | 30, _, h0, hall =>
      obtain rfl : v29 = .string (⟨#[110, 111, 116, 32, 108, 101, 110, 40]⟩ ++ X3 : ByteArray) := F.fs 29 (hall 29 (by decide +kernel))
      obtain rfl : v20 = .bool false := F.fs 20 (hall 20 (by decide +kernel))
      have HF := Lib.hid (show G _ _ _ _ _ [v0, v1, v2, v3, v4, v5, v6, v7, v8, v9, v10, v11, v12, v13, v14, v15, v16, v17, v18, v19, (.bool false), v21, v22, v23, v24, v25, v26, v27, v28, (.string (⟨#[110, 111, 116, 32, 108, 101, 110, 40]⟩ ++ X3 : ByteArray)), .string (⟨#[110, 111, 116, 32, 108, 101, 110, 40]⟩ ++ X3 ++ ⟨#[41]⟩ : ByteArray), v31, v32] from G.val hok F h0 hall (x := .string (⟨#[110, 111, 116, 32, 108, 101, 110, 40]⟩ ++ X3 ++ ⟨#[41]⟩ : ByteArray)) rfl (show 30 < 33 by decide) (Below.refl _ _) rfl)
      clear F hall h0
      refine wpOp_step (by rfl) (fun K' hK => ?_)
      have HKk := Lib.hid hK
      clear hK
      go_simp
      rw [if_neg (by first | omega | (simp only [ByteArray.size_append, ByteArray.size] <;> simp <;> omega))]
      go_simp
      exact HKk.out _ _ ⟨v0, v1, v2, v3, v4, v5, v6, v7, v8, v9, v10, v11, v12, v13, v14, v15, v16, v17, v18, v19, (.bool false), v21, v22, v23, v24, v25, v26, v27, v28, (.string (⟨#[110, 111, 116, 32, 108, 101, 110, 40]⟩ ++ X3 : ByteArray)), .string (⟨#[110, 111, 116, 32, 108, 101, 110, 40]⟩ ++ X3 ++ ⟨#[41]⟩ : ByteArray), v31, v32, rfl, HF.out⟩
    | 31, _, h0, hall =>
      obtain rfl : v26 = .string (⟨#[110, 111, 116, 32, 108, 101, 110, 40]⟩ ++ X3 ++ ⟨#[41]⟩ : ByteArray) := F.fs 26 (hall 26 (by decide +kernel))
      obtain rfl : v30 = .string (⟨#[110, 111, 116, 32, 108, 101, 110, 40]⟩ ++ X3 ++ ⟨#[41]⟩ : ByteArray) := F.fs 30 (hall 30 (by decide +kernel))
      obtain rfl : v20 = .bool false := F.fs 20 (hall 20 (by decide +kernel))
      have HF := Lib.hid (show G _ _ _ _ _ [v0, v1, v2, v3, v4, v5, v6, v7, v8, v9, v10, v11, v12, v13, v14, v15, v16, v17, v18, v19, (.bool false), v21, v22, v23, v24, v25, (.string (⟨#[110, 111, 116, 32, 108, 101, 110, 40]⟩ ++ X3 ++ ⟨#[41]⟩ : ByteArray)), v27, v28, v29, (.string (⟨#[110, 111, 116, 32, 108, 101, 110, 40]⟩ ++ X3 ++ ⟨#[41]⟩ : ByteArray)), .bool false, v32] from G.val hok F h0 hall (x := .bool false) rfl (show 31 < 33 by decide) (Below.refl _ _) rfl)
      clear F hall h0
      refine wpOp_step (by rfl) (fun K' hK => ?_)
      have HKk := Lib.hid hK
      clear hK
      go_simp
      exact HKk.out _ _ ⟨v0, v1, v2, v3, v4, v5, v6, v7, v8, v9, v10, v11, v12, v13, v14, v15, v16, v17, v18, v19, (.bool false), v21, v22, v23, v24, v25, (.string (⟨#[110, 111, 116, 32, 108, 101, 110, 40]⟩ ++ X3 ++ ⟨#[41]⟩ : ByteArray)), v27, v28, v29, (.string (⟨#[110, 111, 116, 32, 108, 101, 110, 40]⟩ ++ X3 ++ ⟨#[41]⟩ : ByteArray)), .bool false, v32, rfl, HF.out⟩
    | 32, _, h0, hall =>
      obtain rfl : v20 = .bool false := F.fs 20 (hall 20 (by decide +kernel))
      obtain rfl : v31 = .bool false := F.fs 31 (hall 31 (by decide +kernel))
      have HF := Lib.hid (show G _ _ _ _ _ [v0, v1, v2, v3, v4, v5, v6, v7, v8, v9, v10, v11, v12, v13, v14, v15, v16, v17, v18, v19, (.bool false), v21, v22, v23, v24, v25, v26, v27, v28, v29, v30, (.bool false), .bool false] from G.val hok F h0 hall (x := .bool false) rfl (show 32 < 33 by decide) (Below.refl _ _) rfl)
      clear F hall h0
      refine wpOp_step (by rfl) (fun K' hK => ?_)
      have HKk := Lib.hid hK
      clear hK
      go_simp
      exact HKk.out _ _ ⟨v0, v1, v2, v3, v4, v5, v6, v7, v8, v9, v10, v11, v12, v13, v14, v15, v16, v17, v18, v19, (.bool false), v21, v22, v23, v24, v25, v26, v27, v28, v29, v30, (.bool false), .bool false, rfl, HF.out⟩
    | i + 33, hi, _, _ => exact absurd hi (by show ¬ (i + 33 < 33); omega)
  intro l2 a2 wf hI hall
  obtain ⟨v0, hI⟩ := hI
  obtain ⟨v1, hI⟩ := hI
  obtain ⟨v2, hI⟩ := hI
  obtain ⟨v3, hI⟩ := hI
  obtain ⟨v4, hI⟩ := hI
  obtain ⟨v5, hI⟩ := hI
  obtain ⟨v6, hI⟩ := hI
  obtain ⟨v7, hI⟩ := hI
  obtain ⟨v8, hI⟩ := hI
  obtain ⟨v9, hI⟩ := hI
  obtain ⟨v10, hI⟩ := hI
  obtain ⟨v11, hI⟩ := hI
  obtain ⟨v12, hI⟩ := hI
  obtain ⟨v13, hI⟩ := hI
  obtain ⟨v14, hI⟩ := hI
  obtain ⟨v15, hI⟩ := hI
  obtain ⟨v16, hI⟩ := hI
  obtain ⟨v17, hI⟩ := hI
  obtain ⟨v18, hI⟩ := hI
  obtain ⟨v19, hI⟩ := hI
  obtain ⟨v20, hI⟩ := hI
  obtain ⟨v21, hI⟩ := hI
  obtain ⟨v22, hI⟩ := hI
  obtain ⟨v23, hI⟩ := hI
  obtain ⟨v24, hI⟩ := hI
  obtain ⟨v25, hI⟩ := hI
  obtain ⟨v26, hI⟩ := hI
  obtain ⟨v27, hI⟩ := hI
  obtain ⟨v28, hI⟩ := hI
  obtain ⟨v29, hI⟩ := hI
  obtain ⟨v30, hI⟩ := hI
  obtain ⟨v31, hI⟩ := hI
  obtain ⟨v32, hI⟩ := hI
  obtain ⟨rfl, F⟩ := hI
  obtain rfl : v32 = .bool false := F.fs 32 (hall 32 (by decide +kernel))
  exact hQ v0 v1 v2 v3 v4 v5 v6 v7 v8 v9 v10 v11 v12 v13 v14 v15 v16 v17 v18 v19 v20 v21 v22 v23 v24 v25 v26 v27 v28 v29 v30 v31 _ (Lib.hid F.bel)
set_option maxHeartbeats 16000000 in
set_option maxRecDepth 1000000 in
theorem reg5 {ea eb ec : Ex} {m1 m2 m3 : Option Addr} {n1 n2 n3 : Nat} {p3 p4 p5 : Nat} {u19 u20 u21 u22 u23 u24 u25 u26 u27 u28 u29 u30 u31 u32 u33 u34 u35 u36 u37 u38 u39 u40 u41 u42 u45 u46 u47 u48 u49 u50 u51 u52 u53 u54 u55 u56 u57 u58 u59 u60 u61 u62 u63 u64 u65 u66 u67 u68 u69 u70 u71 u72 u73 u74 u75 u76 : Value} {W2 : World} (HAp : Hid (∀ (o : Int) (a : Option Addr) (n c : Nat) (w : World), Calls Tryd.prog 13 #[.int .i64 o, .slice a n c] w fun e w' => e = .returned (.agg #[.int .i64 o, .int .i64 0, .string ⟨#[]⟩, .slice a n c]) ∧ Below w.heap.size w w')) (HX1 : Hid (Bx W2 p3 #[.int .i64 ea.op, .int .i64 ea.n, .string ea.s, .slice m1 ea.args.length n1] 28)) (HX2 : Hid (Bx W2 p4 #[.int .i64 eb.op, .int .i64 eb.n, .string eb.s, .slice m2 eb.args.length n2] 28)) (HX3 : Hid (Bx W2 p5 #[.int .i64 ec.op, .int .i64 ec.n, .string ec.s, .slice m3 ec.args.length n3] 28)) (Q : Exit → Act → World → Prop) (hQ : ∀ (v0 v2 v3 v5 v6 v8 : Value) (q0 q1 q2 g0 g1 g2 : Nat) (wf : World), Hid (Below W2.heap.size W2 wf) → Bx wf q0 #[.int .i64 ea.op, .int .i64 ea.n, .string ea.s, .slice m1 ea.args.length n1] 28 → Bx wf q1 #[.int .i64 eb.op, .int .i64 eb.n, .string eb.s, .slice m2 eb.args.length n2] 28 → Bx wf q2 #[.int .i64 ec.op, .int .i64 ec.n, .string ec.s, .slice m3 ec.args.length n3] 28 → Bx wf g0 #[.int .i64 20, .int .i64 0, .string ⟨#[]⟩, .slice (some ⟨q0, 0, none⟩) 1 1] 28 → Bx wf g1 #[.int .i64 22, .int .i64 0, .string ⟨#[]⟩, .slice (some ⟨q1, 0, none⟩) 1 1] 28 → Bx wf g2 #[.int .i64 23, .int .i64 0, .string ⟨#[]⟩, .slice (some ⟨q2, 0, none⟩) 1 1] 28 → Q .normal { tmps := #[.agg #[.int .i64 ea.op, .int .i64 ea.n, .string ea.s, .slice m1 ea.args.length n1], .agg #[.int .i64 eb.op, .int .i64 eb.n, .string eb.s, .slice m2 eb.args.length n2], .agg #[.int .i64 ec.op, .int .i64 ec.n, .string ec.s, .slice m3 ec.args.length n3], .pointer (some ⟨p3, 0, none⟩), .pointer (some ⟨p4, 0, none⟩), .pointer (some ⟨p5, 0, none⟩), .bool false, .pointer (some ⟨g0, 0, none⟩), .pointer (some ⟨g1, 0, none⟩), .pointer (some ⟨g2, 0, none⟩), undef, undef, undef, undef, undef, undef, undef, undef, undef, u19, u20, u21, u22, u23, u24, u25, u26, u27, u28, u29, u30, u31, u32, u33, u34, u35, u36, u37, u38, u39, u40, u41, u42, .bool false, undef, u45, u46, u47, u48, u49, u50, u51, u52, u53, u54, u55, u56, u57, u58, u59, u60, u61, u62, u63, u64, u65, u66, u67, u68, u69, u70, u71, u72, u73, u74, u75, u76, .bool false, v0, .slice (some ⟨q0, 0, none⟩) 1 1, v2, v3, .slice (some ⟨q1, 0, none⟩) 1 1, v5, v6, .slice (some ⟨q2, 0, none⟩) 1 1, v8, undef, undef, undef, undef, undef, undef, undef, undef, undef, undef, undef, undef, undef, undef, undef, undef, undef, undef, undef, undef, undef, undef, undef, undef, undef, undef, undef, undef, undef, undef, undef, undef, undef, undef, undef, undef, undef, undef, undef, undef, undef, undef, undef, undef, undef, undef, undef, undef, undef, undef, undef, undef, undef, undef, undef, undef, undef, undef, undef, undef, undef, undef, undef, undef, undef, undef, undef, undef, undef, undef, undef, undef, undef, undef, undef, undef, undef, undef, undef, undef, undef, undef, undef, undef, undef, undef, undef, undef, undef, undef, undef, undef, undef, undef, undef, undef, undef, undef, undef, undef, undef, undef, undef, undef, undef, undef, undef, undef, undef, undef, undef, undef, undef, undef, undef, undef, undef, undef, undef, undef, undef, undef, undef, undef, undef, undef, undef, undef, undef, undef, undef, undef, undef, undef, undef, undef, undef, undef, undef, undef, undef, undef, undef, undef], defers := [] } wf) :
    Code.wp Tryd.prog (Code.region 5 (opsOf 5) true) Q { tmps := #[.agg #[.int .i64 ea.op, .int .i64 ea.n, .string ea.s, .slice m1 ea.args.length n1], .agg #[.int .i64 eb.op, .int .i64 eb.n, .string eb.s, .slice m2 eb.args.length n2], .agg #[.int .i64 ec.op, .int .i64 ec.n, .string ec.s, .slice m3 ec.args.length n3], .pointer (some ⟨p3, 0, none⟩), .pointer (some ⟨p4, 0, none⟩), .pointer (some ⟨p5, 0, none⟩), .bool false, undef, undef, undef, undef, undef, undef, undef, undef, undef, undef, undef, undef, u19, u20, u21, u22, u23, u24, u25, u26, u27, u28, u29, u30, u31, u32, u33, u34, u35, u36, u37, u38, u39, u40, u41, u42, .bool false, undef, u45, u46, u47, u48, u49, u50, u51, u52, u53, u54, u55, u56, u57, u58, u59, u60, u61, u62, u63, u64, u65, u66, u67, u68, u69, u70, u71, u72, u73, u74, u75, u76, .bool false, undef, undef, undef, undef, undef, undef, undef, undef, undef, undef, undef, undef, undef, undef, undef, undef, undef, undef, undef, undef, undef, undef, undef, undef, undef, undef, undef, undef, undef, undef, undef, undef, undef, undef, undef, undef, undef, undef, undef, undef, undef, undef, undef, undef, undef, undef, undef, undef, undef, undef, undef, undef, undef, undef, undef, undef, undef, undef, undef, undef, undef, undef, undef, undef, undef, undef, undef, undef, undef, undef, undef, undef, undef, undef, undef, undef, undef, undef, undef, undef, undef, undef, undef, undef, undef, undef, undef, undef, undef, undef, undef, undef, undef, undef, undef, undef, undef, undef, undef, undef, undef, undef, undef, undef, undef, undef, undef, undef, undef, undef, undef, undef, undef, undef, undef, undef, undef, undef, undef, undef, undef, undef, undef, undef, undef, undef, undef, undef, undef, undef, undef, undef, undef, undef, undef, undef, undef, undef, undef, undef, undef, undef, undef, undef, undef, undef, undef, undef, undef, undef, undef, undef, undef], defers := [] } W2 := by
  conv => arg 2; arg 2; whnf
  refine wp_region_G rfl ([.val [] (fun _ => .agg #[.int .i64 ea.op, .int .i64 ea.n, .string ea.s, .slice m1 ea.args.length n1]), .blk 1 [] (fun _ => #[.int .i64 ea.op, .int .i64 ea.n, .string ea.s, .slice m1 ea.args.length n1]) 28, .val [1] (fun xs => .agg #[.int .i64 20, .int .i64 0, .string ⟨#[]⟩, xs.getD 0 undef]), .val [] (fun _ => .agg #[.int .i64 eb.op, .int .i64 eb.n, .string eb.s, .slice m2 eb.args.length n2]), .blk 1 [] (fun _ => #[.int .i64 eb.op, .int .i64 eb.n, .string eb.s, .slice m2 eb.args.length n2]) 28, .val [4] (fun xs => .agg #[.int .i64 22, .int .i64 0, .string ⟨#[]⟩, xs.getD 0 undef]), .val [] (fun _ => .agg #[.int .i64 ec.op, .int .i64 ec.n, .string ec.s, .slice m3 ec.args.length n3]), .blk 1 [] (fun _ => #[.int .i64 ec.op, .int .i64 ec.n, .string ec.s, .slice m3 ec.args.length n3]) 28, .val [7] (fun xs => .agg #[.int .i64 23, .int .i64 0, .string ⟨#[]⟩, xs.getD 0 undef]), .cell #[.int .i64 0, .int .i64 0, .string ⟨#[]⟩, .slice none 0 0] 28 12 [1] (fun xs => #[.int .i64 20, .int .i64 0, .string ⟨#[]⟩, xs.getD 0 undef]), .cell #[.int .i64 0, .int .i64 0, .string ⟨#[]⟩, .slice none 0 0] 28 13 [4] (fun xs => #[.int .i64 22, .int .i64 0, .string ⟨#[]⟩, xs.getD 0 undef]), .cell #[.int .i64 0, .int .i64 0, .string ⟨#[]⟩, .slice none 0 0] 28 14 [7] (fun xs => #[.int .i64 23, .int .i64 0, .string ⟨#[]⟩, xs.getD 0 undef]), .non, .non, .non]) (fun ks ops l a w' => ∃ v0 v1 v2 v3 v4 v5 v6 v7 v8 v9 v10 v11 : Value, a = { tmps := #[.agg #[.int .i64 ea.op, .int .i64 ea.n, .string ea.s, .slice m1 ea.args.length n1], .agg #[.int .i64 eb.op, .int .i64 eb.n, .string eb.s, .slice m2 eb.args.length n2], .agg #[.int .i64 ec.op, .int .i64 ec.n, .string ec.s, .slice m3 ec.args.length n3], .pointer (some ⟨p3, 0, none⟩), .pointer (some ⟨p4, 0, none⟩), .pointer (some ⟨p5, 0, none⟩), .bool false, v9, v10, v11, undef, undef, undef, undef, undef, undef, undef, undef, undef, u19, u20, u21, u22, u23, u24, u25, u26, u27, u28, u29, u30, u31, u32, u33, u34, u35, u36, u37, u38, u39, u40, u41, u42, .bool false, undef, u45, u46, u47, u48, u49, u50, u51, u52, u53, u54, u55, u56, u57, u58, u59, u60, u61, u62, u63, u64, u65, u66, u67, u68, u69, u70, u71, u72, u73, u74, u75, u76, .bool false, v0, v1, v2, v3, v4, v5, v6, v7, v8, undef, undef, undef, undef, undef, undef, undef, undef, undef, undef, undef, undef, undef, undef, undef, undef, undef, undef, undef, undef, undef, undef, undef, undef, undef, undef, undef, undef, undef, undef, undef, undef, undef, undef, undef, undef, undef, undef, undef, undef, undef, undef, undef, undef, undef, undef, undef, undef, undef, undef, undef, undef, undef, undef, undef, undef, undef, undef, undef, undef, undef, undef, undef, undef, undef, undef, undef, undef, undef, undef, undef, undef, undef, undef, undef, undef, undef, undef, undef, undef, undef, undef, undef, undef, undef, undef, undef, undef, undef, undef, undef, undef, undef, undef, undef, undef, undef, undef, undef, undef, undef, undef, undef, undef, undef, undef, undef, undef, undef, undef, undef, undef, undef, undef, undef, undef, undef, undef, undef, undef, undef, undef, undef, undef, undef, undef, undef, undef, undef, undef, undef, undef, undef, undef, undef, undef, undef, undef, undef, undef, undef, undef, undef, undef], defers := [] } ∧ G ks ops W2 l w' [v0, v1, v2, v3, v4, v5, v6, v7, v8, v9, v10, v11]) (by kernel_rfl) (by kernel_rfl) ?_ ?_ ?_
  · intro l hl
    exact ⟨undef, undef, undef, undef, undef, undef, undef, undef, undef, undef, undef, undef, rfl, G.start _ _ hl _⟩
  · intro hok l a w' hI i hi h0 hall
    obtain ⟨v0, hI⟩ := hI
    obtain ⟨v1, hI⟩ := hI
    obtain ⟨v2, hI⟩ := hI
    obtain ⟨v3, hI⟩ := hI
    obtain ⟨v4, hI⟩ := hI
    obtain ⟨v5, hI⟩ := hI
    obtain ⟨v6, hI⟩ := hI
    obtain ⟨v7, hI⟩ := hI
    obtain ⟨v8, hI⟩ := hI
    obtain ⟨v9, hI⟩ := hI
    obtain ⟨v10, hI⟩ := hI
    obtain ⟨v11, hI⟩ := hI
    obtain ⟨rfl, F⟩ := hI
    match i, hi, h0, hall with
    | 0, _, h0, hall =>
      have x := HX1.out.below F.bel
      have x_0 : w'.cell? ⟨p3, 0, none⟩ = some (.int .i64 ea.op) := x.cell 0
      have x_1 : w'.cell? ⟨p3, 1, none⟩ = some (.int .i64 ea.n) := x.cell 1
      have x_2 : w'.cell? ⟨p3, 2, none⟩ = some (.string ea.s) := x.cell 2
      have x_3 : w'.cell? ⟨p3, 3, none⟩ = some (.slice m1 ea.args.length n1) := x.cell 3
      clear x
      have HF := Lib.hid (show G _ _ _ _ _ [.agg #[.int .i64 ea.op, .int .i64 ea.n, .string ea.s, .slice m1 ea.args.length n1], v1, v2, v3, v4, v5, v6, v7, v8, v9, v10, v11] from G.val hok F h0 hall (x := .agg #[.int .i64 ea.op, .int .i64 ea.n, .string ea.s, .slice m1 ea.args.length n1]) rfl (show 0 < 12 by decide) (Below.refl _ _) rfl)
      clear F hall h0
      refine wpOp_step (by rfl) (fun K' hK => ?_)
      have HKk := Lib.hid hK
      clear hK
      go_simp
      exact HKk.out _ _ ⟨.agg #[.int .i64 ea.op, .int .i64 ea.n, .string ea.s, .slice m1 ea.args.length n1], v1, v2, v3, v4, v5, v6, v7, v8, v9, v10, v11, rfl, HF.out⟩
    | 1, _, h0, hall =>
      obtain rfl : v0 = .agg #[.int .i64 ea.op, .int .i64 ea.n, .string ea.s, .slice m1 ea.args.length n1] := F.fs 0 (hall 0 (by decide +kernel))
      have HF := Lib.hid (show G _ _ _ _ _ [(.agg #[.int .i64 ea.op, .int .i64 ea.n, .string ea.s, .slice m1 ea.args.length n1]), .slice (some ⟨w'.heap.size, 0, none⟩) 1 1, v2, v3, v4, v5, v6, v7, v8, v9, v10, v11] from G.blk hok F h0 hall (n := 1) (c := #[.int .i64 ea.op, .int .i64 ea.n, .string ea.s, .slice m1 ea.args.length n1]) rfl (show 1 < 12 by decide) rfl)
      clear F hall h0
      refine wpOp_step (by rfl) (fun K' hK => ?_)
      have HKk := Lib.hid hK
      clear hK
      go_simp
      exact HKk.out _ _ ⟨(.agg #[.int .i64 ea.op, .int .i64 ea.n, .string ea.s, .slice m1 ea.args.length n1]), .slice (some ⟨w'.heap.size, 0, none⟩) 1 1, v2, v3, v4, v5, v6, v7, v8, v9, v10, v11, rfl, HF.out⟩
    | 2, _, h0, hall =>
      obtain ⟨g1, e1, x1⟩ : ∃ q, v1 = .slice (some ⟨q, 0, none⟩) 1 1 ∧ Bx w' q #[.int .i64 ea.op, .int .i64 ea.n, .string ea.s, .slice m1 ea.args.length n1] 28 := F.fs 1 (hall 1 (by decide +kernel))
      subst e1
      have HF := Lib.hid (fun w2 (hb : Below w'.heap.size w' w2) => show G _ _ _ _ w2 [v0, (.slice (some ⟨g1, 0, none⟩) 1 1), .agg #[.int .i64 20, .int .i64 0, .string ⟨#[]⟩, (.slice (some ⟨g1, 0, none⟩) 1 1)], v3, v4, v5, v6, v7, v8, v9, v10, v11] from G.val hok F h0 hall (x := .agg #[.int .i64 20, .int .i64 0, .string ⟨#[]⟩, (.slice (some ⟨g1, 0, none⟩) 1 1)]) rfl (show 2 < 12 by decide) hb rfl)
      clear F hall h0
      refine wpOp_step (by rfl) (fun K' hK => ?_)
      have HKk := Lib.hid hK
      clear hK
      go_simp
      refine (HAp.out _ _ _ _ _).mono ?_
      rintro er w2 ⟨rfl, hb⟩
      replace HF := Lib.hid (HF.out w2 hb)
      exact HKk.out _ _ ⟨v0, (.slice (some ⟨g1, 0, none⟩) 1 1), .agg #[.int .i64 20, .int .i64 0, .string ⟨#[]⟩, (.slice (some ⟨g1, 0, none⟩) 1 1)], v3, v4, v5, v6, v7, v8, v9, v10, v11, rfl, HF.out⟩
    | 3, _, h0, hall =>
      have x := HX2.out.below F.bel
      have x_0 : w'.cell? ⟨p4, 0, none⟩ = some (.int .i64 eb.op) := x.cell 0
      have x_1 : w'.cell? ⟨p4, 1, none⟩ = some (.int .i64 eb.n) := x.cell 1
      have x_2 : w'.cell? ⟨p4, 2, none⟩ = some (.string eb.s) := x.cell 2
      have x_3 : w'.cell? ⟨p4, 3, none⟩ = some (.slice m2 eb.args.length n2) := x.cell 3
      clear x
      have HF := Lib.hid (show G _ _ _ _ _ [v0, v1, v2, .agg #[.int .i64 eb.op, .int .i64 eb.n, .string eb.s, .slice m2 eb.args.length n2], v4, v5, v6, v7, v8, v9, v10, v11] from G.val hok F h0 hall (x := .agg #[.int .i64 eb.op, .int .i64 eb.n, .string eb.s, .slice m2 eb.args.length n2]) rfl (show 3 < 12 by decide) (Below.refl _ _) rfl)
      clear F hall h0
      refine wpOp_step (by rfl) (fun K' hK => ?_)
      have HKk := Lib.hid hK
      clear hK
      go_simp
      exact HKk.out _ _ ⟨v0, v1, v2, .agg #[.int .i64 eb.op, .int .i64 eb.n, .string eb.s, .slice m2 eb.args.length n2], v4, v5, v6, v7, v8, v9, v10, v11, rfl, HF.out⟩
    | 4, _, h0, hall =>
      obtain rfl : v3 = .agg #[.int .i64 eb.op, .int .i64 eb.n, .string eb.s, .slice m2 eb.args.length n2] := F.fs 3 (hall 3 (by decide +kernel))
      have HF := Lib.hid (show G _ _ _ _ _ [v0, v1, v2, (.agg #[.int .i64 eb.op, .int .i64 eb.n, .string eb.s, .slice m2 eb.args.length n2]), .slice (some ⟨w'.heap.size, 0, none⟩) 1 1, v5, v6, v7, v8, v9, v10, v11] from G.blk hok F h0 hall (n := 1) (c := #[.int .i64 eb.op, .int .i64 eb.n, .string eb.s, .slice m2 eb.args.length n2]) rfl (show 4 < 12 by decide) rfl)
      clear F hall h0
      refine wpOp_step (by rfl) (fun K' hK => ?_)
      have HKk := Lib.hid hK
      clear hK
      go_simp
      exact HKk.out _ _ ⟨v0, v1, v2, (.agg #[.int .i64 eb.op, .int .i64 eb.n, .string eb.s, .slice m2 eb.args.length n2]), .slice (some ⟨w'.heap.size, 0, none⟩) 1 1, v5, v6, v7, v8, v9, v10, v11, rfl, HF.out⟩
    | 5, _, h0, hall =>
      obtain ⟨g4, e4, x4⟩ : ∃ q, v4 = .slice (some ⟨q, 0, none⟩) 1 1 ∧ Bx w' q #[.int .i64 eb.op, .int .i64 eb.n, .string eb.s, .slice m2 eb.args.length n2] 28 := F.fs 4 (hall 4 (by decide +kernel))
      subst e4
      have HF := Lib.hid (fun w2 (hb : Below w'.heap.size w' w2) => show G _ _ _ _ w2 [v0, v1, v2, v3, (.slice (some ⟨g4, 0, none⟩) 1 1), .agg #[.int .i64 22, .int .i64 0, .string ⟨#[]⟩, (.slice (some ⟨g4, 0, none⟩) 1 1)], v6, v7, v8, v9, v10, v11] from G.val hok F h0 hall (x := .agg #[.int .i64 22, .int .i64 0, .string ⟨#[]⟩, (.slice (some ⟨g4, 0, none⟩) 1 1)]) rfl (show 5 < 12 by decide) hb rfl)
      clear F hall h0
      refine wpOp_step (by rfl) (fun K' hK => ?_)
      have HKk := Lib.hid hK
      clear hK
      go_simp
      refine (HAp.out _ _ _ _ _).mono ?_
      rintro er w2 ⟨rfl, hb⟩
      replace HF := Lib.hid (HF.out w2 hb)
      exact HKk.out _ _ ⟨v0, v1, v2, v3, (.slice (some ⟨g4, 0, none⟩) 1 1), .agg #[.int .i64 22, .int .i64 0, .string ⟨#[]⟩, (.slice (some ⟨g4, 0, none⟩) 1 1)], v6, v7, v8, v9, v10, v11, rfl, HF.out⟩
    | 6, _, h0, hall =>
      have x := HX3.out.below F.bel
      have x_0 : w'.cell? ⟨p5, 0, none⟩ = some (.int .i64 ec.op) := x.cell 0
      have x_1 : w'.cell? ⟨p5, 1, none⟩ = some (.int .i64 ec.n) := x.cell 1
      have x_2 : w'.cell? ⟨p5, 2, none⟩ = some (.string ec.s) := x.cell 2
      have x_3 : w'.cell? ⟨p5, 3, none⟩ = some (.slice m3 ec.args.length n3) := x.cell 3
      clear x
      have HF := Lib.hid (show G _ _ _ _ _ [v0, v1, v2, v3, v4, v5, .agg #[.int .i64 ec.op, .int .i64 ec.n, .string ec.s, .slice m3 ec.args.length n3], v7, v8, v9, v10, v11] from G.val hok F h0 hall (x := .agg #[.int .i64 ec.op, .int .i64 ec.n, .string ec.s, .slice m3 ec.args.length n3]) rfl (show 6 < 12 by decide) (Below.refl _ _) rfl)
      clear F hall h0
      refine wpOp_step (by rfl) (fun K' hK => ?_)
      have HKk := Lib.hid hK
      clear hK
      go_simp
      exact HKk.out _ _ ⟨v0, v1, v2, v3, v4, v5, .agg #[.int .i64 ec.op, .int .i64 ec.n, .string ec.s, .slice m3 ec.args.length n3], v7, v8, v9, v10, v11, rfl, HF.out⟩
    | 7, _, h0, hall =>
      obtain rfl : v6 = .agg #[.int .i64 ec.op, .int .i64 ec.n, .string ec.s, .slice m3 ec.args.length n3] := F.fs 6 (hall 6 (by decide +kernel))
      have HF := Lib.hid (show G _ _ _ _ _ [v0, v1, v2, v3, v4, v5, (.agg #[.int .i64 ec.op, .int .i64 ec.n, .string ec.s, .slice m3 ec.args.length n3]), .slice (some ⟨w'.heap.size, 0, none⟩) 1 1, v8, v9, v10, v11] from G.blk hok F h0 hall (n := 1) (c := #[.int .i64 ec.op, .int .i64 ec.n, .string ec.s, .slice m3 ec.args.length n3]) rfl (show 7 < 12 by decide) rfl)
      clear F hall h0
      refine wpOp_step (by rfl) (fun K' hK => ?_)
      have HKk := Lib.hid hK
      clear hK
      go_simp
      exact HKk.out _ _ ⟨v0, v1, v2, v3, v4, v5, (.agg #[.int .i64 ec.op, .int .i64 ec.n, .string ec.s, .slice m3 ec.args.length n3]), .slice (some ⟨w'.heap.size, 0, none⟩) 1 1, v8, v9, v10, v11, rfl, HF.out⟩
    | 8, _, h0, hall =>
      obtain ⟨g7, e7, x7⟩ : ∃ q, v7 = .slice (some ⟨q, 0, none⟩) 1 1 ∧ Bx w' q #[.int .i64 ec.op, .int .i64 ec.n, .string ec.s, .slice m3 ec.args.length n3] 28 := F.fs 7 (hall 7 (by decide +kernel))
      subst e7
      have HF := Lib.hid (fun w2 (hb : Below w'.heap.size w' w2) => show G _ _ _ _ w2 [v0, v1, v2, v3, v4, v5, v6, (.slice (some ⟨g7, 0, none⟩) 1 1), .agg #[.int .i64 23, .int .i64 0, .string ⟨#[]⟩, (.slice (some ⟨g7, 0, none⟩) 1 1)], v9, v10, v11] from G.val hok F h0 hall (x := .agg #[.int .i64 23, .int .i64 0, .string ⟨#[]⟩, (.slice (some ⟨g7, 0, none⟩) 1 1)]) rfl (show 8 < 12 by decide) hb rfl)
      clear F hall h0
      refine wpOp_step (by rfl) (fun K' hK => ?_)
      have HKk := Lib.hid hK
      clear hK
      go_simp
      refine (HAp.out _ _ _ _ _).mono ?_
      rintro er w2 ⟨rfl, hb⟩
      replace HF := Lib.hid (HF.out w2 hb)
      exact HKk.out _ _ ⟨v0, v1, v2, v3, v4, v5, v6, (.slice (some ⟨g7, 0, none⟩) 1 1), .agg #[.int .i64 23, .int .i64 0, .string ⟨#[]⟩, (.slice (some ⟨g7, 0, none⟩) 1 1)], v9, v10, v11, rfl, HF.out⟩
    | 9, _, h0, hall =>
      have HF := Lib.hid (show G _ _ _ _ _ [v0, v1, v2, v3, v4, v5, v6, v7, v8, .pointer (some ⟨w'.heap.size, 0, none⟩), v10, v11] from G.cell hok F h0 hall rfl (show 9 < 12 by decide))
      clear F hall h0
      refine wpOp_step (by rfl) (fun K' hK => ?_)
      have HKk := Lib.hid hK
      clear hK
      go_simp
      exact HKk.out _ _ ⟨v0, v1, v2, v3, v4, v5, v6, v7, v8, .pointer (some ⟨w'.heap.size, 0, none⟩), v10, v11, rfl, HF.out⟩
    | 10, _, h0, hall =>
      have HF := Lib.hid (show G _ _ _ _ _ [v0, v1, v2, v3, v4, v5, v6, v7, v8, v9, .pointer (some ⟨w'.heap.size, 0, none⟩), v11] from G.cell hok F h0 hall rfl (show 10 < 12 by decide))
      clear F hall h0
      refine wpOp_step (by rfl) (fun K' hK => ?_)
      have HKk := Lib.hid hK
      clear hK
      go_simp
      exact HKk.out _ _ ⟨v0, v1, v2, v3, v4, v5, v6, v7, v8, v9, .pointer (some ⟨w'.heap.size, 0, none⟩), v11, rfl, HF.out⟩
    | 11, _, h0, hall =>
      have HF := Lib.hid (show G _ _ _ _ _ [v0, v1, v2, v3, v4, v5, v6, v7, v8, v9, v10, .pointer (some ⟨w'.heap.size, 0, none⟩)] from G.cell hok F h0 hall rfl (show 11 < 12 by decide))
      clear F hall h0
      refine wpOp_step (by rfl) (fun K' hK => ?_)
      have HKk := Lib.hid hK
      clear hK
      go_simp
      exact HKk.out _ _ ⟨v0, v1, v2, v3, v4, v5, v6, v7, v8, v9, v10, .pointer (some ⟨w'.heap.size, 0, none⟩), rfl, HF.out⟩
    | 12, _, h0, hall =>
      obtain ⟨g1, e1, x1⟩ : ∃ q, v1 = .slice (some ⟨q, 0, none⟩) 1 1 ∧ Bx w' q #[.int .i64 ea.op, .int .i64 ea.n, .string ea.s, .slice m1 ea.args.length n1] 28 := F.fs 1 (F.cl 2 (hall 2 (by decide +kernel)) 1 (by decide +kernel))
      subst e1
      obtain rfl : v2 = .agg #[.int .i64 20, .int .i64 0, .string ⟨#[]⟩, (.slice (some ⟨g1, 0, none⟩) 1 1)] := F.fs 2 (hall 2 (by decide +kernel))
      obtain ⟨g9, e9, hz, hx, _⟩ : ∃ q, v9 = .pointer (some ⟨q, 0, none⟩) ∧ W2.heap.size ≤ q ∧ (¬ On l 12 → Bx w' q #[.int .i64 0, .int .i64 0, .string ⟨#[]⟩, .slice none 0 0] 28) ∧ (On l 12 → Bx w' q #[.int .i64 20, .int .i64 0, .string ⟨#[]⟩, (.slice (some ⟨g1, 0, none⟩) 1 1)] 28) := F.fs 9 (hall 9 (by decide +kernel))
      subst e9
      have hg := hx (off_of h0)
      have x_0 := hg.cell 0
      have x_1 := hg.cell 1
      have x_2 := hg.cell 2
      have x_3 := hg.cell 3
      have y_0 := hg.free 0
      have y_1 := hg.free 1
      have y_2 := hg.free 2
      have y_3 := hg.free 3
      simp at x_0 x_1 x_2 x_3
      have HF := Lib.hid (show G _ _ _ _ (set4 w' g9 (.int .i64 20) (.int .i64 0) (.string ⟨#[]⟩) ((.slice (some ⟨g1, 0, none⟩) 1 1))) [v0, (.slice (some ⟨g1, 0, none⟩) 1 1), (.agg #[.int .i64 20, .int .i64 0, .string ⟨#[]⟩, (.slice (some ⟨g1, 0, none⟩) 1 1)]), v3, v4, v5, v6, v7, v8, (.pointer (some ⟨g9, 0, none⟩)), v10, v11] from G.store hok F h0 hall (c := 9) (g := g9) rfl rfl (below_set4 F.bel hz) (fun g' hne => set4_other hne) (bx_set4 hg))
      clear F hall h0
      refine wpOp_step (by rfl) (fun K' hK => ?_)
      have HKk := Lib.hid hK
      clear hK
      go_simp
      exact HKk.out _ _ ⟨v0, (.slice (some ⟨g1, 0, none⟩) 1 1), (.agg #[.int .i64 20, .int .i64 0, .string ⟨#[]⟩, (.slice (some ⟨g1, 0, none⟩) 1 1)]), v3, v4, v5, v6, v7, v8, (.pointer (some ⟨g9, 0, none⟩)), v10, v11, rfl, HF.out⟩
    | 13, _, h0, hall =>
      obtain ⟨g4, e4, x4⟩ : ∃ q, v4 = .slice (some ⟨q, 0, none⟩) 1 1 ∧ Bx w' q #[.int .i64 eb.op, .int .i64 eb.n, .string eb.s, .slice m2 eb.args.length n2] 28 := F.fs 4 (F.cl 5 (hall 5 (by decide +kernel)) 4 (by decide +kernel))
      subst e4
      obtain rfl : v5 = .agg #[.int .i64 22, .int .i64 0, .string ⟨#[]⟩, (.slice (some ⟨g4, 0, none⟩) 1 1)] := F.fs 5 (hall 5 (by decide +kernel))
      obtain ⟨g10, e10, hz, hx, _⟩ : ∃ q, v10 = .pointer (some ⟨q, 0, none⟩) ∧ W2.heap.size ≤ q ∧ (¬ On l 13 → Bx w' q #[.int .i64 0, .int .i64 0, .string ⟨#[]⟩, .slice none 0 0] 28) ∧ (On l 13 → Bx w' q #[.int .i64 22, .int .i64 0, .string ⟨#[]⟩, (.slice (some ⟨g4, 0, none⟩) 1 1)] 28) := F.fs 10 (hall 10 (by decide +kernel))
      subst e10
      have hg := hx (off_of h0)
      have x_0 := hg.cell 0
      have x_1 := hg.cell 1
      have x_2 := hg.cell 2
      have x_3 := hg.cell 3
      have y_0 := hg.free 0
      have y_1 := hg.free 1
      have y_2 := hg.free 2
      have y_3 := hg.free 3
      simp at x_0 x_1 x_2 x_3
      have HF := Lib.hid (show G _ _ _ _ (set4 w' g10 (.int .i64 22) (.int .i64 0) (.string ⟨#[]⟩) ((.slice (some ⟨g4, 0, none⟩) 1 1))) [v0, v1, v2, v3, (.slice (some ⟨g4, 0, none⟩) 1 1), (.agg #[.int .i64 22, .int .i64 0, .string ⟨#[]⟩, (.slice (some ⟨g4, 0, none⟩) 1 1)]), v6, v7, v8, v9, (.pointer (some ⟨g10, 0, none⟩)), v11] from G.store hok F h0 hall (c := 10) (g := g10) rfl rfl (below_set4 F.bel hz) (fun g' hne => set4_other hne) (bx_set4 hg))
      clear F hall h0
      refine wpOp_step (by rfl) (fun K' hK => ?_)
      have HKk := Lib.hid hK
      clear hK
      go_simp
      exact HKk.out _ _ ⟨v0, v1, v2, v3, (.slice (some ⟨g4, 0, none⟩) 1 1), (.agg #[.int .i64 22, .int .i64 0, .string ⟨#[]⟩, (.slice (some ⟨g4, 0, none⟩) 1 1)]), v6, v7, v8, v9, (.pointer (some ⟨g10, 0, none⟩)), v11, rfl, HF.out⟩
    | 14, _, h0, hall =>
      obtain ⟨g7, e7, x7⟩ : ∃ q, v7 = .slice (some ⟨q, 0, none⟩) 1 1 ∧ Bx w' q #[.int .i64 ec.op, .int .i64 ec.n, .string ec.s, .slice m3 ec.args.length n3] 28 := F.fs 7 (F.cl 8 (hall 8 (by decide +kernel)) 7 (by decide +kernel))
      subst e7
      obtain rfl : v8 = .agg #[.int .i64 23, .int .i64 0, .string ⟨#[]⟩, (.slice (some ⟨g7, 0, none⟩) 1 1)] := F.fs 8 (hall 8 (by decide +kernel))
      obtain ⟨g11, e11, hz, hx, _⟩ : ∃ q, v11 = .pointer (some ⟨q, 0, none⟩) ∧ W2.heap.size ≤ q ∧ (¬ On l 14 → Bx w' q #[.int .i64 0, .int .i64 0, .string ⟨#[]⟩, .slice none 0 0] 28) ∧ (On l 14 → Bx w' q #[.int .i64 23, .int .i64 0, .string ⟨#[]⟩, (.slice (some ⟨g7, 0, none⟩) 1 1)] 28) := F.fs 11 (hall 11 (by decide +kernel))
      subst e11
      have hg := hx (off_of h0)
      have x_0 := hg.cell 0
      have x_1 := hg.cell 1
      have x_2 := hg.cell 2
      have x_3 := hg.cell 3
      have y_0 := hg.free 0
      have y_1 := hg.free 1
      have y_2 := hg.free 2
      have y_3 := hg.free 3
      simp at x_0 x_1 x_2 x_3
      have HF := Lib.hid (show G _ _ _ _ (set4 w' g11 (.int .i64 23) (.int .i64 0) (.string ⟨#[]⟩) ((.slice (some ⟨g7, 0, none⟩) 1 1))) [v0, v1, v2, v3, v4, v5, v6, (.slice (some ⟨g7, 0, none⟩) 1 1), (.agg #[.int .i64 23, .int .i64 0, .string ⟨#[]⟩, (.slice (some ⟨g7, 0, none⟩) 1 1)]), v9, v10, (.pointer (some ⟨g11, 0, none⟩))] from G.store hok F h0 hall (c := 11) (g := g11) rfl rfl (below_set4 F.bel hz) (fun g' hne => set4_other hne) (bx_set4 hg))
      clear F hall h0
      refine wpOp_step (by rfl) (fun K' hK => ?_)
      have HKk := Lib.hid hK
      clear hK
      go_simp
      exact HKk.out _ _ ⟨v0, v1, v2, v3, v4, v5, v6, (.slice (some ⟨g7, 0, none⟩) 1 1), (.agg #[.int .i64 23, .int .i64 0, .string ⟨#[]⟩, (.slice (some ⟨g7, 0, none⟩) 1 1)]), v9, v10, (.pointer (some ⟨g11, 0, none⟩)), rfl, HF.out⟩
    | i + 15, hi, _, _ => exact absurd hi (by show ¬ (i + 15 < 15); omega)
  intro l2 a2 wf hI hall
  obtain ⟨v0, hI⟩ := hI
  obtain ⟨v1, hI⟩ := hI
  obtain ⟨v2, hI⟩ := hI
  obtain ⟨v3, hI⟩ := hI
  obtain ⟨v4, hI⟩ := hI
  obtain ⟨v5, hI⟩ := hI
  obtain ⟨v6, hI⟩ := hI
  obtain ⟨v7, hI⟩ := hI
  obtain ⟨v8, hI⟩ := hI
  obtain ⟨v9, hI⟩ := hI
  obtain ⟨v10, hI⟩ := hI
  obtain ⟨v11, hI⟩ := hI
  obtain ⟨rfl, F⟩ := hI
  obtain ⟨q0, eq0, xq0⟩ : ∃ q, v1 = .slice (some ⟨q, 0, none⟩) 1 1 ∧ Bx wf q #[.int .i64 ea.op, .int .i64 ea.n, .string ea.s, .slice m1 ea.args.length n1] 28 := F.fs 1 (hall 1 (by decide +kernel))
  subst eq0
  obtain ⟨g0, eg0, _, _, xg0⟩ : ∃ q, v9 = .pointer (some ⟨q, 0, none⟩) ∧ W2.heap.size ≤ q ∧ (¬ On l2 12 → Bx wf q #[.int .i64 0, .int .i64 0, .string ⟨#[]⟩, .slice none 0 0] 28) ∧ (On l2 12 → Bx wf q #[.int .i64 20, .int .i64 0, .string ⟨#[]⟩, .slice (some ⟨q0, 0, none⟩) 1 1] 28) := F.fs 9 (hall 9 (by decide +kernel))
  subst eg0
  obtain ⟨q1, eq1, xq1⟩ : ∃ q, v4 = .slice (some ⟨q, 0, none⟩) 1 1 ∧ Bx wf q #[.int .i64 eb.op, .int .i64 eb.n, .string eb.s, .slice m2 eb.args.length n2] 28 := F.fs 4 (hall 4 (by decide +kernel))
  subst eq1
  obtain ⟨g1, eg1, _, _, xg1⟩ : ∃ q, v10 = .pointer (some ⟨q, 0, none⟩) ∧ W2.heap.size ≤ q ∧ (¬ On l2 13 → Bx wf q #[.int .i64 0, .int .i64 0, .string ⟨#[]⟩, .slice none 0 0] 28) ∧ (On l2 13 → Bx wf q #[.int .i64 22, .int .i64 0, .string ⟨#[]⟩, .slice (some ⟨q1, 0, none⟩) 1 1] 28) := F.fs 10 (hall 10 (by decide +kernel))
  subst eg1
  obtain ⟨q2, eq2, xq2⟩ : ∃ q, v7 = .slice (some ⟨q, 0, none⟩) 1 1 ∧ Bx wf q #[.int .i64 ec.op, .int .i64 ec.n, .string ec.s, .slice m3 ec.args.length n3] 28 := F.fs 7 (hall 7 (by decide +kernel))
  subst eq2
  obtain ⟨g2, eg2, _, _, xg2⟩ : ∃ q, v11 = .pointer (some ⟨q, 0, none⟩) ∧ W2.heap.size ≤ q ∧ (¬ On l2 14 → Bx wf q #[.int .i64 0, .int .i64 0, .string ⟨#[]⟩, .slice none 0 0] 28) ∧ (On l2 14 → Bx wf q #[.int .i64 23, .int .i64 0, .string ⟨#[]⟩, .slice (some ⟨q2, 0, none⟩) 1 1] 28) := F.fs 11 (hall 11 (by decide +kernel))
  subst eg2
  exact hQ v0 v2 v3 v5 v6 v8 q0 q1 q2 g0 g1 g2 _ (Lib.hid F.bel) xq0 xq1 xq2 (xg0 (hall 12 (by decide +kernel))) (xg1 (hall 13 (by decide +kernel))) (xg2 (hall 14 (by decide +kernel)))
set_option maxHeartbeats 16000000 in
set_option maxRecDepth 1000000 in
theorem reg8a {ea eb ec : Ex} {m1 m2 m3 : Option Addr} {n1 n2 n3 : Nat} {p3 p4 p5 : Nat} {u19 u20 u21 u22 u23 u24 u25 u26 u27 u28 u29 u30 u31 u32 u33 u34 u35 u36 u37 u38 u39 u40 u41 u42 u45 u46 u47 u48 u49 u50 u51 u52 u53 u54 u55 u56 u57 u58 u59 u60 u61 u62 u63 u64 u65 u66 u67 u68 u69 u70 u71 u72 u73 u74 u75 u76 y0 y2 y3 y5 y6 y8 : Value} {ta tb tc : Ex} {ma mb mc : Option Addr} {na nb nc : Nat} {g0 g1 g2 : Nat} {X Y Z : ByteArray} {q0 q1 q2 pI pS : Nat} {x1 x2 : Int} {w7 : World} (HAp : Hid (∀ (o : Int) (a : Option Addr) (n c : Nat) (w : World), Calls Tryd.prog 13 #[.int .i64 o, .slice a n c] w fun e w' => e = .returned (.agg #[.int .i64 o, .int .i64 0, .string ⟨#[]⟩, .slice a n c]) ∧ Below w.heap.size w w')) (HXta : Hid (Bx w7 g0 #[.int .i64 ta.op, .int .i64 ta.n, .string ta.s, .slice ma ta.args.length na] 28)) (HXtb : Hid (Bx w7 g1 #[.int .i64 tb.op, .int .i64 tb.n, .string tb.s, .slice mb tb.args.length nb] 28)) (HXtc : Hid (Bx w7 g2 #[.int .i64 tc.op, .int .i64 tc.n, .string tc.s, .slice mc tc.args.length nc] 28)) (HKta : Hid (A.Kids w7 ma ta.args)) (HKtb : Hid (A.Kids w7 mb tb.args)) (HKtc : Hid (A.Kids w7 mc tc.args)) (HOta : Hid (okE ta)) (HOtb : Hid (okE tb)) (HOtc : Hid (okE tc)) (E1 : Hid (vE (b2 17 ta (b2 17 tb tc)) 1 = x1)) (E2 : Hid (vE (b2 17 (b2 17 ta tb) tc) 1 = x2)) (hb1 : (x1 != 0) = true) (Q : Exit → Act → World → Prop) (hQ : ∀ (v0 v1 v2 v3 v4 v5 v6 v7 v8 v9 v10 v11 v12 v13 v14 v15 v16 v17 v18 : Value) (wf : World), Hid (Below w7.heap.size w7 wf) → Q .normal { tmps := #[.agg #[.int .i64 ea.op, .int .i64 ea.n, .string ea.s, .slice m1 ea.args.length n1], .agg #[.int .i64 eb.op, .int .i64 eb.n, .string eb.s, .slice m2 eb.args.length n2], .agg #[.int .i64 ec.op, .int .i64 ec.n, .string ec.s, .slice m3 ec.args.length n3], .pointer (some ⟨p3, 0, none⟩), .pointer (some ⟨p4, 0, none⟩), .pointer (some ⟨p5, 0, none⟩), .bool false, .pointer (some ⟨g0, 0, none⟩), .pointer (some ⟨g1, 0, none⟩), .pointer (some ⟨g2, 0, none⟩), .string X, .string Y, .string Z, .slice (some ⟨pI, 0, none⟩) 8 8, .slice (some ⟨pS, 0, none⟩) 8 8, undef, undef, undef, undef, u19, u20, u21, u22, u23, u24, u25, u26, u27, u28, u29, u30, u31, u32, u33, u34, u35, u36, u37, u38, u39, u40, u41, u42, .bool false, undef, u45, u46, u47, u48, u49, u50, u51, u52, u53, u54, u55, u56, u57, u58, u59, u60, u61, u62, u63, u64, u65, u66, u67, u68, u69, u70, u71, u72, u73, u74, u75, u76, .bool false, y0, .slice (some ⟨q0, 0, none⟩) 1 1, y2, y3, .slice (some ⟨q1, 0, none⟩) 1 1, y5, y6, .slice (some ⟨q2, 0, none⟩) 1 1, y8, .agg #[.int .i64 ta.op, .int .i64 ta.n, .string ta.s, .slice ma ta.args.length na], .string X, .agg #[.int .i64 tb.op, .int .i64 tb.n, .string tb.s, .slice mb tb.args.length nb], .string Y, .agg #[.int .i64 tc.op, .int .i64 tc.n, .string tc.s, .slice mc tc.args.length nc], .string Z, .slice (some ⟨pI, 0, none⟩) 8 8, .slice (some ⟨pS, 0, none⟩) 8 8, v0, v1, v2, v3, v4, v5, v6, v7, v8, v9, v10, v11, v12, v13, v14, v15, v16, v17, v18, .bool true, undef, undef, undef, undef, undef, undef, undef, undef, undef, undef, undef, undef, undef, undef, undef, undef, undef, undef, undef, undef, undef, undef, undef, undef, undef, undef, undef, undef, undef, undef, undef, undef, undef, undef, undef, undef, undef, undef, undef, undef, undef, undef, undef, undef, undef, undef, undef, undef, undef, undef, undef, undef, undef, undef, undef, undef, undef, undef, undef, undef, undef, undef, undef, undef, undef, undef, undef, undef, undef, undef, undef, undef, undef, undef, undef, undef, undef, undef, undef, undef, undef, undef, undef, undef, undef, undef, undef, undef, undef, undef, undef, undef, undef, undef, undef, undef, undef, undef, undef, undef, undef, undef, undef, undef, undef, undef, undef, undef, undef, undef, undef, undef, undef, undef, undef, undef], defers := [] } wf) :
    Code.wp Tryd.prog (Code.region 8 (opsOf 8) true) Q { tmps := #[.agg #[.int .i64 ea.op, .int .i64 ea.n, .string ea.s, .slice m1 ea.args.length n1], .agg #[.int .i64 eb.op, .int .i64 eb.n, .string eb.s, .slice m2 eb.args.length n2], .agg #[.int .i64 ec.op, .int .i64 ec.n, .string ec.s, .slice m3 ec.args.length n3], .pointer (some ⟨p3, 0, none⟩), .pointer (some ⟨p4, 0, none⟩), .pointer (some ⟨p5, 0, none⟩), .bool false, .pointer (some ⟨g0, 0, none⟩), .pointer (some ⟨g1, 0, none⟩), .pointer (some ⟨g2, 0, none⟩), .string X, .string Y, .string Z, .slice (some ⟨pI, 0, none⟩) 8 8, .slice (some ⟨pS, 0, none⟩) 8 8, undef, undef, undef, undef, u19, u20, u21, u22, u23, u24, u25, u26, u27, u28, u29, u30, u31, u32, u33, u34, u35, u36, u37, u38, u39, u40, u41, u42, .bool false, undef, u45, u46, u47, u48, u49, u50, u51, u52, u53, u54, u55, u56, u57, u58, u59, u60, u61, u62, u63, u64, u65, u66, u67, u68, u69, u70, u71, u72, u73, u74, u75, u76, .bool false, y0, .slice (some ⟨q0, 0, none⟩) 1 1, y2, y3, .slice (some ⟨q1, 0, none⟩) 1 1, y5, y6, .slice (some ⟨q2, 0, none⟩) 1 1, y8, .agg #[.int .i64 ta.op, .int .i64 ta.n, .string ta.s, .slice ma ta.args.length na], .string X, .agg #[.int .i64 tb.op, .int .i64 tb.n, .string tb.s, .slice mb tb.args.length nb], .string Y, .agg #[.int .i64 tc.op, .int .i64 tc.n, .string tc.s, .slice mc tc.args.length nc], .string Z, .slice (some ⟨pI, 0, none⟩) 8 8, .slice (some ⟨pS, 0, none⟩) 8 8, undef, undef, undef, undef, undef, undef, undef, undef, undef, undef, undef, undef, undef, undef, undef, undef, undef, undef, undef, undef, undef, undef, undef, undef, undef, undef, undef, undef, undef, undef, undef, undef, undef, undef, undef, undef, undef, undef, undef, undef, undef, undef, undef, undef, undef, undef, undef, undef, undef, undef, undef, undef, undef, undef, undef, undef, undef, undef, undef, undef, undef, undef, undef, undef, undef, undef, undef, undef, undef, undef, undef, undef, undef, undef, undef, undef, undef, undef, undef, undef, undef, undef, undef, undef, undef, undef, undef, undef, undef, undef, undef, undef, undef, undef, undef, undef, undef, undef, undef, undef, undef, undef, undef, undef, undef, undef, undef, undef, undef, undef, undef, undef, undef, undef, undef, undef, undef, undef, undef, undef, undef, undef, undef, undef, undef, undef, undef, undef, undef, undef, undef, undef, undef, undef, undef, undef], defers := [] } w7 := by
  conv => arg 2; arg 2; whnf
  refine wp_region_G rfl ([.val [] (fun _ => .agg #[.int .i64 ta.op, .int .i64 ta.n, .string ta.s, .slice ma ta.args.length na]), .val [] (fun _ => .agg #[.int .i64 tb.op, .int .i64 tb.n, .string tb.s, .slice mb tb.args.length nb]), .val [] (fun _ => .agg #[.int .i64 tc.op, .int .i64 tc.n, .string tc.s, .slice mc tc.args.length nc]), .blk 2 [] (fun _ => #[.int .i64 tb.op, .int .i64 tb.n, .string tb.s, .slice mb tb.args.length nb, .int .i64 tc.op, .int .i64 tc.n, .string tc.s, .slice mc tc.args.length nc]) 28, .val [3] (fun xs => .agg #[.int .i64 17, .int .i64 0, .string ⟨#[]⟩, xs.getD 0 undef]), .blk 2 [3] (fun xs => #[.int .i64 ta.op, .int .i64 ta.n, .string ta.s, .slice ma ta.args.length na, .int .i64 17, .int .i64 0, .string ⟨#[]⟩, xs.getD 0 undef]) 28, .val [5] (fun xs => .agg #[.int .i64 17, .int .i64 0, .string ⟨#[]⟩, xs.getD 0 undef]), .val [] (fun _ => .int .i64 x1), .val [] (fun _ => .bool true), .val [] (fun _ => .bool true), .val [] (fun _ => undef), .val [] (fun _ => undef), .val [] (fun _ => undef), .val [] (fun _ => undef), .val [] (fun _ => undef), .val [] (fun _ => undef), .val [] (fun _ => undef), .val [] (fun _ => undef), .val [] (fun _ => undef), .val [] (fun _ => .bool true)]) (fun ks ops l a w' => ∃ v0 v1 v2 v3 v4 v5 v6 v7 v8 v9 v10 v11 v12 v13 v14 v15 v16 v17 v18 v19 : Value, a = { tmps := #[.agg #[.int .i64 ea.op, .int .i64 ea.n, .string ea.s, .slice m1 ea.args.length n1], .agg #[.int .i64 eb.op, .int .i64 eb.n, .string eb.s, .slice m2 eb.args.length n2], .agg #[.int .i64 ec.op, .int .i64 ec.n, .string ec.s, .slice m3 ec.args.length n3], .pointer (some ⟨p3, 0, none⟩), .pointer (some ⟨p4, 0, none⟩), .pointer (some ⟨p5, 0, none⟩), .bool false, .pointer (some ⟨g0, 0, none⟩), .pointer (some ⟨g1, 0, none⟩), .pointer (some ⟨g2, 0, none⟩), .string X, .string Y, .string Z, .slice (some ⟨pI, 0, none⟩) 8 8, .slice (some ⟨pS, 0, none⟩) 8 8, undef, undef, undef, undef, u19, u20, u21, u22, u23, u24, u25, u26, u27, u28, u29, u30, u31, u32, u33, u34, u35, u36, u37, u38, u39, u40, u41, u42, .bool false, undef, u45, u46, u47, u48, u49, u50, u51, u52, u53, u54, u55, u56, u57, u58, u59, u60, u61, u62, u63, u64, u65, u66, u67, u68, u69, u70, u71, u72, u73, u74, u75, u76, .bool false, y0, .slice (some ⟨q0, 0, none⟩) 1 1, y2, y3, .slice (some ⟨q1, 0, none⟩) 1 1, y5, y6, .slice (some ⟨q2, 0, none⟩) 1 1, y8, .agg #[.int .i64 ta.op, .int .i64 ta.n, .string ta.s, .slice ma ta.args.length na], .string X, .agg #[.int .i64 tb.op, .int .i64 tb.n, .string tb.s, .slice mb tb.args.length nb], .string Y, .agg #[.int .i64 tc.op, .int .i64 tc.n, .string tc.s, .slice mc tc.args.length nc], .string Z, .slice (some ⟨pI, 0, none⟩) 8 8, .slice (some ⟨pS, 0, none⟩) 8 8, v0, v1, v2, v3, v4, v5, v6, v7, v8, v9, v10, v11, v12, v13, v14, v15, v16, v17, v18, v19, undef, undef, undef, undef, undef, undef, undef, undef, undef, undef, undef, undef, undef, undef, undef, undef, undef, undef, undef, undef, undef, undef, undef, undef, undef, undef, undef, undef, undef, undef, undef, undef, undef, undef, undef, undef, undef, undef, undef, undef, undef, undef, undef, undef, undef, undef, undef, undef, undef, undef, undef, undef, undef, undef, undef, undef, undef, undef, undef, undef, undef, undef, undef, undef, undef, undef, undef, undef, undef, undef, undef, undef, undef, undef, undef, undef, undef, undef, undef, undef, undef, undef, undef, undef, undef, undef, undef, undef, undef, undef, undef, undef, undef, undef, undef, undef, undef, undef, undef, undef, undef, undef, undef, undef, undef, undef, undef, undef, undef, undef, undef, undef, undef, undef, undef, undef], defers := [] } ∧ G ks ops w7 l w' [v0, v1, v2, v3, v4, v5, v6, v7, v8, v9, v10, v11, v12, v13, v14, v15, v16, v17, v18, v19]) (by kernel_rfl) (by kernel_rfl) ?_ ?_ ?_
  · intro l hl
    exact ⟨undef, undef, undef, undef, undef, undef, undef, undef, undef, undef, undef, undef, undef, undef, undef, undef, undef, undef, undef, undef, rfl, G.start _ _ hl _⟩
  · intro hok l a w' hI i hi h0 hall
    obtain ⟨v0, hI⟩ := hI
    obtain ⟨v1, hI⟩ := hI
    obtain ⟨v2, hI⟩ := hI
    obtain ⟨v3, hI⟩ := hI
    obtain ⟨v4, hI⟩ := hI
    obtain ⟨v5, hI⟩ := hI
    obtain ⟨v6, hI⟩ := hI
    obtain ⟨v7, hI⟩ := hI
    obtain ⟨v8, hI⟩ := hI
    obtain ⟨v9, hI⟩ := hI
    obtain ⟨v10, hI⟩ := hI
    obtain ⟨v11, hI⟩ := hI
    obtain ⟨v12, hI⟩ := hI
    obtain ⟨v13, hI⟩ := hI
    obtain ⟨v14, hI⟩ := hI
    obtain ⟨v15, hI⟩ := hI
    obtain ⟨v16, hI⟩ := hI
    obtain ⟨v17, hI⟩ := hI
    obtain ⟨v18, hI⟩ := hI
    obtain ⟨v19, hI⟩ := hI
    obtain ⟨rfl, F⟩ := hI
    match i, hi, h0, hall with
    | 0, _, h0, hall =>
      have x := HXta.out.below F.bel
      have x_0 : w'.cell? ⟨g0, 0, none⟩ = some (.int .i64 ta.op) := x.cell 0
      have x_1 : w'.cell? ⟨g0, 1, none⟩ = some (.int .i64 ta.n) := x.cell 1
      have x_2 : w'.cell? ⟨g0, 2, none⟩ = some (.string ta.s) := x.cell 2
      have x_3 : w'.cell? ⟨g0, 3, none⟩ = some (.slice ma ta.args.length na) := x.cell 3
      clear x
      have HF := Lib.hid (show G _ _ _ _ _ [.agg #[.int .i64 ta.op, .int .i64 ta.n, .string ta.s, .slice ma ta.args.length na], v1, v2, v3, v4, v5, v6, v7, v8, v9, v10, v11, v12, v13, v14, v15, v16, v17, v18, v19] from G.val hok F h0 hall (x := .agg #[.int .i64 ta.op, .int .i64 ta.n, .string ta.s, .slice ma ta.args.length na]) rfl (show 0 < 20 by decide) (Below.refl _ _) rfl)
      clear F hall h0
      refine wpOp_step (by rfl) (fun K' hK => ?_)
      have HKk := Lib.hid hK
      clear hK
      go_simp
      exact HKk.out _ _ ⟨.agg #[.int .i64 ta.op, .int .i64 ta.n, .string ta.s, .slice ma ta.args.length na], v1, v2, v3, v4, v5, v6, v7, v8, v9, v10, v11, v12, v13, v14, v15, v16, v17, v18, v19, rfl, HF.out⟩
    | 1, _, h0, hall =>
      have x := HXtb.out.below F.bel
      have x_0 : w'.cell? ⟨g1, 0, none⟩ = some (.int .i64 tb.op) := x.cell 0
      have x_1 : w'.cell? ⟨g1, 1, none⟩ = some (.int .i64 tb.n) := x.cell 1
      have x_2 : w'.cell? ⟨g1, 2, none⟩ = some (.string tb.s) := x.cell 2
      have x_3 : w'.cell? ⟨g1, 3, none⟩ = some (.slice mb tb.args.length nb) := x.cell 3
      clear x
      have HF := Lib.hid (show G _ _ _ _ _ [v0, .agg #[.int .i64 tb.op, .int .i64 tb.n, .string tb.s, .slice mb tb.args.length nb], v2, v3, v4, v5, v6, v7, v8, v9, v10, v11, v12, v13, v14, v15, v16, v17, v18, v19] from G.val hok F h0 hall (x := .agg #[.int .i64 tb.op, .int .i64 tb.n, .string tb.s, .slice mb tb.args.length nb]) rfl (show 1 < 20 by decide) (Below.refl _ _) rfl)
      clear F hall h0
      refine wpOp_step (by rfl) (fun K' hK => ?_)
      have HKk := Lib.hid hK
      clear hK
      go_simp
      exact HKk.out _ _ ⟨v0, .agg #[.int .i64 tb.op, .int .i64 tb.n, .string tb.s, .slice mb tb.args.length nb], v2, v3, v4, v5, v6, v7, v8, v9, v10, v11, v12, v13, v14, v15, v16, v17, v18, v19, rfl, HF.out⟩
    | 2, _, h0, hall =>
      have x := HXtc.out.below F.bel
      have x_0 : w'.cell? ⟨g2, 0, none⟩ = some (.int .i64 tc.op) := x.cell 0
      have x_1 : w'.cell? ⟨g2, 1, none⟩ = some (.int .i64 tc.n) := x.cell 1
      have x_2 : w'.cell? ⟨g2, 2, none⟩ = some (.string tc.s) := x.cell 2
      have x_3 : w'.cell? ⟨g2, 3, none⟩ = some (.slice mc tc.args.length nc) := x.cell 3
      clear x
      have HF := Lib.hid (show G _ _ _ _ _ [v0, v1, .agg #[.int .i64 tc.op, .int .i64 tc.n, .string tc.s, .slice mc tc.args.length nc], v3, v4, v5, v6, v7, v8, v9, v10, v11, v12, v13, v14, v15, v16, v17, v18, v19] from G.val hok F h0 hall (x := .agg #[.int .i64 tc.op, .int .i64 tc.n, .string tc.s, .slice mc tc.args.length nc]) rfl (show 2 < 20 by decide) (Below.refl _ _) rfl)
      clear F hall h0
      refine wpOp_step (by rfl) (fun K' hK => ?_)
      have HKk := Lib.hid hK
      clear hK
      go_simp
      exact HKk.out _ _ ⟨v0, v1, .agg #[.int .i64 tc.op, .int .i64 tc.n, .string tc.s, .slice mc tc.args.length nc], v3, v4, v5, v6, v7, v8, v9, v10, v11, v12, v13, v14, v15, v16, v17, v18, v19, rfl, HF.out⟩
    | 3, _, h0, hall =>
      obtain rfl : v1 = .agg #[.int .i64 tb.op, .int .i64 tb.n, .string tb.s, .slice mb tb.args.length nb] := F.fs 1 (hall 1 (by decide +kernel))
      obtain rfl : v2 = .agg #[.int .i64 tc.op, .int .i64 tc.n, .string tc.s, .slice mc tc.args.length nc] := F.fs 2 (hall 2 (by decide +kernel))
      have HF := Lib.hid (show G _ _ _ _ _ [v0, (.agg #[.int .i64 tb.op, .int .i64 tb.n, .string tb.s, .slice mb tb.args.length nb]), (.agg #[.int .i64 tc.op, .int .i64 tc.n, .string tc.s, .slice mc tc.args.length nc]), .slice (some ⟨w'.heap.size, 0, none⟩) 2 2, v4, v5, v6, v7, v8, v9, v10, v11, v12, v13, v14, v15, v16, v17, v18, v19] from G.blk hok F h0 hall (n := 2) (c := #[.int .i64 tb.op, .int .i64 tb.n, .string tb.s, .slice mb tb.args.length nb, .int .i64 tc.op, .int .i64 tc.n, .string tc.s, .slice mc tc.args.length nc]) rfl (show 3 < 20 by decide) rfl)
      clear F hall h0
      refine wpOp_step (by rfl) (fun K' hK => ?_)
      have HKk := Lib.hid hK
      clear hK
      go_simp
      exact HKk.out _ _ ⟨v0, (.agg #[.int .i64 tb.op, .int .i64 tb.n, .string tb.s, .slice mb tb.args.length nb]), (.agg #[.int .i64 tc.op, .int .i64 tc.n, .string tc.s, .slice mc tc.args.length nc]), .slice (some ⟨w'.heap.size, 0, none⟩) 2 2, v4, v5, v6, v7, v8, v9, v10, v11, v12, v13, v14, v15, v16, v17, v18, v19, rfl, HF.out⟩
    | 4, _, h0, hall =>
      obtain ⟨g3, e3, x3⟩ : ∃ q, v3 = .slice (some ⟨q, 0, none⟩) 2 2 ∧ Bx w' q #[.int .i64 tb.op, .int .i64 tb.n, .string tb.s, .slice mb tb.args.length nb, .int .i64 tc.op, .int .i64 tc.n, .string tc.s, .slice mc tc.args.length nc] 28 := F.fs 3 (hall 3 (by decide +kernel))
      subst e3
      have HF := Lib.hid (fun w2 (hb : Below w'.heap.size w' w2) => show G _ _ _ _ w2 [v0, v1, v2, (.slice (some ⟨g3, 0, none⟩) 2 2), .agg #[.int .i64 17, .int .i64 0, .string ⟨#[]⟩, (.slice (some ⟨g3, 0, none⟩) 2 2)], v5, v6, v7, v8, v9, v10, v11, v12, v13, v14, v15, v16, v17, v18, v19] from G.val hok F h0 hall (x := .agg #[.int .i64 17, .int .i64 0, .string ⟨#[]⟩, (.slice (some ⟨g3, 0, none⟩) 2 2)]) rfl (show 4 < 20 by decide) hb rfl)
      clear F hall h0
      refine wpOp_step (by rfl) (fun K' hK => ?_)
      have HKk := Lib.hid hK
      clear hK
      go_simp
      refine (HAp.out _ _ _ _ _).mono ?_
      rintro er w2 ⟨rfl, hb⟩
      replace HF := Lib.hid (HF.out w2 hb)
      exact HKk.out _ _ ⟨v0, v1, v2, (.slice (some ⟨g3, 0, none⟩) 2 2), .agg #[.int .i64 17, .int .i64 0, .string ⟨#[]⟩, (.slice (some ⟨g3, 0, none⟩) 2 2)], v5, v6, v7, v8, v9, v10, v11, v12, v13, v14, v15, v16, v17, v18, v19, rfl, HF.out⟩
    | 5, _, h0, hall =>
      obtain rfl : v0 = .agg #[.int .i64 ta.op, .int .i64 ta.n, .string ta.s, .slice ma ta.args.length na] := F.fs 0 (hall 0 (by decide +kernel))
      obtain ⟨g3, e3, x3⟩ : ∃ q, v3 = .slice (some ⟨q, 0, none⟩) 2 2 ∧ Bx w' q #[.int .i64 tb.op, .int .i64 tb.n, .string tb.s, .slice mb tb.args.length nb, .int .i64 tc.op, .int .i64 tc.n, .string tc.s, .slice mc tc.args.length nc] 28 := F.fs 3 (F.cl 4 (hall 4 (by decide +kernel)) 3 (by decide +kernel))
      subst e3
      obtain rfl : v4 = .agg #[.int .i64 17, .int .i64 0, .string ⟨#[]⟩, (.slice (some ⟨g3, 0, none⟩) 2 2)] := F.fs 4 (hall 4 (by decide +kernel))
      have HF := Lib.hid (show G _ _ _ _ _ [(.agg #[.int .i64 ta.op, .int .i64 ta.n, .string ta.s, .slice ma ta.args.length na]), v1, v2, (.slice (some ⟨g3, 0, none⟩) 2 2), (.agg #[.int .i64 17, .int .i64 0, .string ⟨#[]⟩, (.slice (some ⟨g3, 0, none⟩) 2 2)]), .slice (some ⟨w'.heap.size, 0, none⟩) 2 2, v6, v7, v8, v9, v10, v11, v12, v13, v14, v15, v16, v17, v18, v19] from G.blk hok F h0 hall (n := 2) (c := #[.int .i64 ta.op, .int .i64 ta.n, .string ta.s, .slice ma ta.args.length na, .int .i64 17, .int .i64 0, .string ⟨#[]⟩, (.slice (some ⟨g3, 0, none⟩) 2 2)]) rfl (show 5 < 20 by decide) rfl)
      clear F hall h0
      refine wpOp_step (by rfl) (fun K' hK => ?_)
      have HKk := Lib.hid hK
      clear hK
      go_simp
      exact HKk.out _ _ ⟨(.agg #[.int .i64 ta.op, .int .i64 ta.n, .string ta.s, .slice ma ta.args.length na]), v1, v2, (.slice (some ⟨g3, 0, none⟩) 2 2), (.agg #[.int .i64 17, .int .i64 0, .string ⟨#[]⟩, (.slice (some ⟨g3, 0, none⟩) 2 2)]), .slice (some ⟨w'.heap.size, 0, none⟩) 2 2, v6, v7, v8, v9, v10, v11, v12, v13, v14, v15, v16, v17, v18, v19, rfl, HF.out⟩
    | 6, _, h0, hall =>
      obtain ⟨g3, e3, x3⟩ : ∃ q, v3 = .slice (some ⟨q, 0, none⟩) 2 2 ∧ Bx w' q #[.int .i64 tb.op, .int .i64 tb.n, .string tb.s, .slice mb tb.args.length nb, .int .i64 tc.op, .int .i64 tc.n, .string tc.s, .slice mc tc.args.length nc] 28 := F.fs 3 (F.cl 4 (F.cl 5 (hall 5 (by decide +kernel)) 4 (by decide +kernel)) 3 (by decide +kernel))
      subst e3
      obtain ⟨g5, e5, x5⟩ : ∃ q, v5 = .slice (some ⟨q, 0, none⟩) 2 2 ∧ Bx w' q #[.int .i64 ta.op, .int .i64 ta.n, .string ta.s, .slice ma ta.args.length na, .int .i64 17, .int .i64 0, .string ⟨#[]⟩, (.slice (some ⟨g3, 0, none⟩) 2 2)] 28 := F.fs 5 (hall 5 (by decide +kernel))
      subst e5
      have HF := Lib.hid (fun w2 (hb : Below w'.heap.size w' w2) => show G _ _ _ _ w2 [v0, v1, v2, (.slice (some ⟨g3, 0, none⟩) 2 2), v4, (.slice (some ⟨g5, 0, none⟩) 2 2), .agg #[.int .i64 17, .int .i64 0, .string ⟨#[]⟩, (.slice (some ⟨g5, 0, none⟩) 2 2)], v7, v8, v9, v10, v11, v12, v13, v14, v15, v16, v17, v18, v19] from G.val hok F h0 hall (x := .agg #[.int .i64 17, .int .i64 0, .string ⟨#[]⟩, (.slice (some ⟨g5, 0, none⟩) 2 2)]) rfl (show 6 < 20 by decide) hb rfl)
      clear F hall h0
      refine wpOp_step (by rfl) (fun K' hK => ?_)
      have HKk := Lib.hid hK
      clear hK
      go_simp
      refine (HAp.out _ _ _ _ _).mono ?_
      rintro er w2 ⟨rfl, hb⟩
      replace HF := Lib.hid (HF.out w2 hb)
      exact HKk.out _ _ ⟨v0, v1, v2, (.slice (some ⟨g3, 0, none⟩) 2 2), v4, (.slice (some ⟨g5, 0, none⟩) 2 2), .agg #[.int .i64 17, .int .i64 0, .string ⟨#[]⟩, (.slice (some ⟨g5, 0, none⟩) 2 2)], v7, v8, v9, v10, v11, v12, v13, v14, v15, v16, v17, v18, v19, rfl, HF.out⟩
    | 7, _, h0, hall =>
      obtain ⟨g3, e3, x3⟩ : ∃ q, v3 = .slice (some ⟨q, 0, none⟩) 2 2 ∧ Bx w' q #[.int .i64 tb.op, .int .i64 tb.n, .string tb.s, .slice mb tb.args.length nb, .int .i64 tc.op, .int .i64 tc.n, .string tc.s, .slice mc tc.args.length nc] 28 := F.fs 3 (F.cl 4 (F.cl 5 (F.cl 6 (hall 6 (by decide +kernel)) 5 (by decide +kernel)) 4 (by decide +kernel)) 3 (by decide +kernel))
      subst e3
      obtain ⟨g5, e5, x5⟩ : ∃ q, v5 = .slice (some ⟨q, 0, none⟩) 2 2 ∧ Bx w' q #[.int .i64 ta.op, .int .i64 ta.n, .string ta.s, .slice ma ta.args.length na, .int .i64 17, .int .i64 0, .string ⟨#[]⟩, (.slice (some ⟨g3, 0, none⟩) 2 2)] 28 := F.fs 5 (F.cl 6 (hall 6 (by decide +kernel)) 5 (by decide +kernel))
      subst e5
      obtain rfl : v6 = .agg #[.int .i64 17, .int .i64 0, .string ⟨#[]⟩, (.slice (some ⟨g5, 0, none⟩) 2 2)] := F.fs 6 (hall 6 (by decide +kernel))
      have HC := Lib.hid (ovalidExpr_any (b2 17 ta (b2 17 tb tc)) (some ⟨g5, 0, none⟩) 2 (ok_bi 17 (by decide) (by decide) HOta.out (ok_bi 17 (by decide) (by decide) HOtb.out HOtc.out)) w' (kids_2 (e := ta) (f := (b2 17 tb tc)) x5 (HKta.out.below F.bel) (kids_2 (e := tb) (f := tc) x3 (HKtb.out.below F.bel) (HKtc.out.below F.bel))))
      rw [E1.out] at HC
      have HF := Lib.hid (fun w2 (hb : Below w'.heap.size w' w2) => show G _ _ _ _ w2 [v0, v1, v2, (.slice (some ⟨g3, 0, none⟩) 2 2), v4, (.slice (some ⟨g5, 0, none⟩) 2 2), (.agg #[.int .i64 17, .int .i64 0, .string ⟨#[]⟩, (.slice (some ⟨g5, 0, none⟩) 2 2)]), .int .i64 x1, v8, v9, v10, v11, v12, v13, v14, v15, v16, v17, v18, v19] from G.val hok F h0 hall (x := .int .i64 x1) rfl (show 7 < 20 by decide) hb rfl)
      clear F hall h0
      refine wpOp_step (by rfl) (fun K' hK => ?_)
      have HKk := Lib.hid hK
      clear hK
      go_simp
      refine HC.out.mono ?_
      rintro er w2 ⟨rfl, hb⟩
      replace HF := Lib.hid (HF.out w2 hb)
      exact HKk.out _ _ ⟨v0, v1, v2, (.slice (some ⟨g3, 0, none⟩) 2 2), v4, (.slice (some ⟨g5, 0, none⟩) 2 2), (.agg #[.int .i64 17, .int .i64 0, .string ⟨#[]⟩, (.slice (some ⟨g5, 0, none⟩) 2 2)]), .int .i64 x1, v8, v9, v10, v11, v12, v13, v14, v15, v16, v17, v18, v19, rfl, HF.out⟩
    | 8, _, h0, hall =>
      obtain rfl : v7 = .int .i64 x1 := F.fs 7 (hall 7 (by decide +kernel))
      have HF := Lib.hid (show G _ _ _ _ _ [v0, v1, v2, v3, v4, v5, v6, (.int .i64 x1), .bool true, v9, v10, v11, v12, v13, v14, v15, v16, v17, v18, v19] from G.val hok F h0 hall (x := .bool true) rfl (show 8 < 20 by decide) (Below.refl _ _) rfl)
      clear F hall h0
      refine wpOp_step (by rfl) (fun K' hK => ?_)
      have HKk := Lib.hid hK
      clear hK
      go_simp
      exact HKk.out _ _ ⟨v0, v1, v2, v3, v4, v5, v6, (.int .i64 x1), .bool true, v9, v10, v11, v12, v13, v14, v15, v16, v17, v18, v19, rfl, HF.out⟩
    | 9, _, h0, hall =>
      obtain rfl : v8 = .bool true := F.fs 8 (hall 8 (by decide +kernel))
      have HF := Lib.hid (show G _ _ _ _ _ [v0, v1, v2, v3, v4, v5, v6, v7, (.bool true), .bool true, v10, v11, v12, v13, v14, v15, v16, v17, v18, v19] from G.val hok F h0 hall (x := .bool true) rfl (show 9 < 20 by decide) (Below.refl _ _) rfl)
      clear F hall h0
      refine wpOp_step (by rfl) (fun K' hK => ?_)
      have HKk := Lib.hid hK
      clear hK
      go_simp
      exact HKk.out _ _ ⟨v0, v1, v2, v3, v4, v5, v6, v7, (.bool true), .bool true, v10, v11, v12, v13, v14, v15, v16, v17, v18, v19, rfl, HF.out⟩
    | 10, _, h0, hall =>
      obtain rfl : v9 = .bool true := F.fs 9 (hall 9 (by decide +kernel))
      have HF := Lib.hid (show G _ _ _ _ _ [v0, v1, v2, v3, v4, v5, v6, v7, v8, (.bool true), undef, v11, v12, v13, v14, v15, v16, v17, v18, v19] from G.val hok F h0 hall (x := undef) rfl (show 10 < 20 by decide) (Below.refl _ _) rfl)
      clear F hall h0
      refine wpOp_step (by rfl) (fun K' hK => ?_)
      have HKk := Lib.hid hK
      clear hK
      go_simp
      exact HKk.out _ _ ⟨v0, v1, v2, v3, v4, v5, v6, v7, v8, (.bool true), undef, v11, v12, v13, v14, v15, v16, v17, v18, v19, rfl, HF.out⟩
    | 11, _, h0, hall =>
      obtain rfl : v9 = .bool true := F.fs 9 (hall 9 (by decide +kernel))
      have HF := Lib.hid (show G _ _ _ _ _ [v0, v1, v2, v3, v4, v5, v6, v7, v8, (.bool true), v10, undef, v12, v13, v14, v15, v16, v17, v18, v19] from G.val hok F h0 hall (x := undef) rfl (show 11 < 20 by decide) (Below.refl _ _) rfl)
      clear F hall h0
      refine wpOp_step (by rfl) (fun K' hK => ?_)
      have HKk := Lib.hid hK
      clear hK
      go_simp
      exact HKk.out _ _ ⟨v0, v1, v2, v3, v4, v5, v6, v7, v8, (.bool true), v10, undef, v12, v13, v14, v15, v16, v17, v18, v19, rfl, HF.out⟩
    | 12, _, h0, hall =>
      obtain rfl : v9 = .bool true := F.fs 9 (hall 9 (by decide +kernel))
      have HF := Lib.hid (show G _ _ _ _ _ [v0, v1, v2, v3, v4, v5, v6, v7, v8, (.bool true), v10, v11, undef, v13, v14, v15, v16, v17, v18, v19] from G.val hok F h0 hall (x := undef) rfl (show 12 < 20 by decide) (Below.refl _ _) rfl)
      clear F hall h0
      refine wpOp_step (by rfl) (fun K' hK => ?_)
      have HKk := Lib.hid hK
      clear hK
      go_simp
      exact HKk.out _ _ ⟨v0, v1, v2, v3, v4, v5, v6, v7, v8, (.bool true), v10, v11, undef, v13, v14, v15, v16, v17, v18, v19, rfl, HF.out⟩
    | 13, _, h0, hall =>
      obtain rfl : v9 = .bool true := F.fs 9 (hall 9 (by decide +kernel))
      have HF := Lib.hid (show G _ _ _ _ _ [v0, v1, v2, v3, v4, v5, v6, v7, v8, (.bool true), v10, v11, v12, undef, v14, v15, v16, v17, v18, v19] from G.val hok F h0 hall (x := undef) rfl (show 13 < 20 by decide) (Below.refl _ _) rfl)
      clear F hall h0
      refine wpOp_step (by rfl) (fun K' hK => ?_)
      have HKk := Lib.hid hK
      clear hK
      go_simp
      exact HKk.out _ _ ⟨v0, v1, v2, v3, v4, v5, v6, v7, v8, (.bool true), v10, v11, v12, undef, v14, v15, v16, v17, v18, v19, rfl, HF.out⟩
    | 14, _, h0, hall =>
      obtain rfl : v9 = .bool true := F.fs 9 (hall 9 (by decide +kernel))
      have HF := Lib.hid (show G _ _ _ _ _ [v0, v1, v2, v3, v4, v5, v6, v7, v8, (.bool true), v10, v11, v12, v13, undef, v15, v16, v17, v18, v19] from G.val hok F h0 hall (x := undef) rfl (show 14 < 20 by decide) (Below.refl _ _) rfl)
      clear F hall h0
      refine wpOp_step (by rfl) (fun K' hK => ?_)
      have HKk := Lib.hid hK
      clear hK
      go_simp
      exact HKk.out _ _ ⟨v0, v1, v2, v3, v4, v5, v6, v7, v8, (.bool true), v10, v11, v12, v13, undef, v15, v16, v17, v18, v19, rfl, HF.out⟩
    | 15, _, h0, hall =>
      obtain rfl : v9 = .bool true := F.fs 9 (hall 9 (by decide +kernel))
      have HF := Lib.hid (show G _ _ _ _ _ [v0, v1, v2, v3, v4, v5, v6, v7, v8, (.bool true), v10, v11, v12, v13, v14, undef, v16, v17, v18, v19] from G.val hok F h0 hall (x := undef) rfl (show 15 < 20 by decide) (Below.refl _ _) rfl)
      clear F hall h0
      refine wpOp_step (by rfl) (fun K' hK => ?_)
      have HKk := Lib.hid hK
      clear hK
      go_simp
      exact HKk.out _ _ ⟨v0, v1, v2, v3, v4, v5, v6, v7, v8, (.bool true), v10, v11, v12, v13, v14, undef, v16, v17, v18, v19, rfl, HF.out⟩
    | 16, _, h0, hall =>
      obtain rfl : v9 = .bool true := F.fs 9 (hall 9 (by decide +kernel))
      have HF := Lib.hid (show G _ _ _ _ _ [v0, v1, v2, v3, v4, v5, v6, v7, v8, (.bool true), v10, v11, v12, v13, v14, v15, undef, v17, v18, v19] from G.val hok F h0 hall (x := undef) rfl (show 16 < 20 by decide) (Below.refl _ _) rfl)
      clear F hall h0
      refine wpOp_step (by rfl) (fun K' hK => ?_)
      have HKk := Lib.hid hK
      clear hK
      go_simp
      exact HKk.out _ _ ⟨v0, v1, v2, v3, v4, v5, v6, v7, v8, (.bool true), v10, v11, v12, v13, v14, v15, undef, v17, v18, v19, rfl, HF.out⟩
    | 17, _, h0, hall =>
      obtain rfl : v9 = .bool true := F.fs 9 (hall 9 (by decide +kernel))
      have HF := Lib.hid (show G _ _ _ _ _ [v0, v1, v2, v3, v4, v5, v6, v7, v8, (.bool true), v10, v11, v12, v13, v14, v15, v16, undef, v18, v19] from G.val hok F h0 hall (x := undef) rfl (show 17 < 20 by decide) (Below.refl _ _) rfl)
      clear F hall h0
      refine wpOp_step (by rfl) (fun K' hK => ?_)
      have HKk := Lib.hid hK
      clear hK
      go_simp
      exact HKk.out _ _ ⟨v0, v1, v2, v3, v4, v5, v6, v7, v8, (.bool true), v10, v11, v12, v13, v14, v15, v16, undef, v18, v19, rfl, HF.out⟩
    | 18, _, h0, hall =>
      obtain rfl : v9 = .bool true := F.fs 9 (hall 9 (by decide +kernel))
      have HF := Lib.hid (show G _ _ _ _ _ [v0, v1, v2, v3, v4, v5, v6, v7, v8, (.bool true), v10, v11, v12, v13, v14, v15, v16, v17, undef, v19] from G.val hok F h0 hall (x := undef) rfl (show 18 < 20 by decide) (Below.refl _ _) rfl)
      clear F hall h0
      refine wpOp_step (by rfl) (fun K' hK => ?_)
      have HKk := Lib.hid hK
      clear hK
      go_simp
      exact HKk.out _ _ ⟨v0, v1, v2, v3, v4, v5, v6, v7, v8, (.bool true), v10, v11, v12, v13, v14, v15, v16, v17, undef, v19, rfl, HF.out⟩
    | 19, _, h0, hall =>
      obtain rfl : v9 = .bool true := F.fs 9 (hall 9 (by decide +kernel))
      have HF := Lib.hid (show G _ _ _ _ _ [v0, v1, v2, v3, v4, v5, v6, v7, v8, (.bool true), v10, v11, v12, v13, v14, v15, v16, v17, v18, .bool true] from G.val hok F h0 hall (x := .bool true) rfl (show 19 < 20 by decide) (Below.refl _ _) rfl)
      clear F hall h0
      refine wpOp_step (by rfl) (fun K' hK => ?_)
      have HKk := Lib.hid hK
      clear hK
      go_simp
      exact HKk.out _ _ ⟨v0, v1, v2, v3, v4, v5, v6, v7, v8, (.bool true), v10, v11, v12, v13, v14, v15, v16, v17, v18, .bool true, rfl, HF.out⟩
    | i + 20, hi, _, _ => exact absurd hi (by show ¬ (i + 20 < 20); omega)
  intro l2 a2 wf hI hall
  obtain ⟨v0, hI⟩ := hI
  obtain ⟨v1, hI⟩ := hI
  obtain ⟨v2, hI⟩ := hI
  obtain ⟨v3, hI⟩ := hI
  obtain ⟨v4, hI⟩ := hI
  obtain ⟨v5, hI⟩ := hI
  obtain ⟨v6, hI⟩ := hI
  obtain ⟨v7, hI⟩ := hI
  obtain ⟨v8, hI⟩ := hI
  obtain ⟨v9, hI⟩ := hI
  obtain ⟨v10, hI⟩ := hI
  obtain ⟨v11, hI⟩ := hI
  obtain ⟨v12, hI⟩ := hI
  obtain ⟨v13, hI⟩ := hI
  obtain ⟨v14, hI⟩ := hI
  obtain ⟨v15, hI⟩ := hI
  obtain ⟨v16, hI⟩ := hI
  obtain ⟨v17, hI⟩ := hI
  obtain ⟨v18, hI⟩ := hI
  obtain ⟨v19, hI⟩ := hI
  obtain ⟨rfl, F⟩ := hI
  obtain rfl : v19 = .bool true := F.fs 19 (hall 19 (by decide +kernel))
  exact hQ v0 v1 v2 v3 v4 v5 v6 v7 v8 v9 v10 v11 v12 v13 v14 v15 v16 v17 v18 _ (Lib.hid F.bel)
set_option maxHeartbeats 16000000 in
set_option maxRecDepth 1000000 in
theorem reg8b {ea eb ec : Ex} {m1 m2 m3 : Option Addr} {n1 n2 n3 : Nat} {p3 p4 p5 : Nat} {u19 u20 u21 u22 u23 u24 u25 u26 u27 u28 u29 u30 u31 u32 u33 u34 u35 u36 u37 u38 u39 u40 u41 u42 u45 u46 u47 u48 u49 u50 u51 u52 u53 u54 u55 u56 u57 u58 u59 u60 u61 u62 u63 u64 u65 u66 u67 u68 u69 u70 u71 u72 u73 u74 u75 u76 y0 y2 y3 y5 y6 y8 : Value} {ta tb tc : Ex} {ma mb mc : Option Addr} {na nb nc : Nat} {g0 g1 g2 : Nat} {X Y Z : ByteArray} {q0 q1 q2 pI pS : Nat} {x1 x2 : Int} {w7 : World} (HAp : Hid (∀ (o : Int) (a : Option Addr) (n c : Nat) (w : World), Calls Tryd.prog 13 #[.int .i64 o, .slice a n c] w fun e w' => e = .returned (.agg #[.int .i64 o, .int .i64 0, .string ⟨#[]⟩, .slice a n c]) ∧ Below w.heap.size w w')) (HXta : Hid (Bx w7 g0 #[.int .i64 ta.op, .int .i64 ta.n, .string ta.s, .slice ma ta.args.length na] 28)) (HXtb : Hid (Bx w7 g1 #[.int .i64 tb.op, .int .i64 tb.n, .string tb.s, .slice mb tb.args.length nb] 28)) (HXtc : Hid (Bx w7 g2 #[.int .i64 tc.op, .int .i64 tc.n, .string tc.s, .slice mc tc.args.length nc] 28)) (HKta : Hid (A.Kids w7 ma ta.args)) (HKtb : Hid (A.Kids w7 mb tb.args)) (HKtc : Hid (A.Kids w7 mc tc.args)) (HOta : Hid (okE ta)) (HOtb : Hid (okE tb)) (HOtc : Hid (okE tc)) (E1 : Hid (vE (b2 17 ta (b2 17 tb tc)) 1 = x1)) (E2 : Hid (vE (b2 17 (b2 17 ta tb) tc) 1 = x2)) (hb1 : (x1 != 0) = false) (Q : Exit → Act → World → Prop) (hQ : ∀ (v0 v1 v2 v3 v4 v5 v6 v7 v8 v9 v10 v11 v12 v13 v14 v15 v16 v17 v18 : Value) (wf : World), Hid (Below w7.heap.size w7 wf) → Q .normal { tmps := #[.agg #[.int .i64 ea.op, .int .i64 ea.n, .string ea.s, .slice m1 ea.args.length n1], .agg #[.int .i64 eb.op, .int .i64 eb.n, .string eb.s, .slice m2 eb.args.length n2], .agg #[.int .i64 ec.op, .int .i64 ec.n, .string ec.s, .slice m3 ec.args.length n3], .pointer (some ⟨p3, 0, none⟩), .pointer (some ⟨p4, 0, none⟩), .pointer (some ⟨p5, 0, none⟩), .bool false, .pointer (some ⟨g0, 0, none⟩), .pointer (some ⟨g1, 0, none⟩), .pointer (some ⟨g2, 0, none⟩), .string X, .string Y, .string Z, .slice (some ⟨pI, 0, none⟩) 8 8, .slice (some ⟨pS, 0, none⟩) 8 8, undef, undef, undef, undef, u19, u20, u21, u22, u23, u24, u25, u26, u27, u28, u29, u30, u31, u32, u33, u34, u35, u36, u37, u38, u39, u40, u41, u42, .bool false, undef, u45, u46, u47, u48, u49, u50, u51, u52, u53, u54, u55, u56, u57, u58, u59, u60, u61, u62, u63, u64, u65, u66, u67, u68, u69, u70, u71, u72, u73, u74, u75, u76, .bool false, y0, .slice (some ⟨q0, 0, none⟩) 1 1, y2, y3, .slice (some ⟨q1, 0, none⟩) 1 1, y5, y6, .slice (some ⟨q2, 0, none⟩) 1 1, y8, .agg #[.int .i64 ta.op, .int .i64 ta.n, .string ta.s, .slice ma ta.args.length na], .string X, .agg #[.int .i64 tb.op, .int .i64 tb.n, .string tb.s, .slice mb tb.args.length nb], .string Y, .agg #[.int .i64 tc.op, .int .i64 tc.n, .string tc.s, .slice mc tc.args.length nc], .string Z, .slice (some ⟨pI, 0, none⟩) 8 8, .slice (some ⟨pS, 0, none⟩) 8 8, v0, v1, v2, v3, v4, v5, v6, v7, v8, v9, v10, v11, v12, v13, v14, v15, v16, v17, v18, .bool (x2 != 0), undef, undef, undef, undef, undef, undef, undef, undef, undef, undef, undef, undef, undef, undef, undef, undef, undef, undef, undef, undef, undef, undef, undef, undef, undef, undef, undef, undef, undef, undef, undef, undef, undef, undef, undef, undef, undef, undef, undef, undef, undef, undef, undef, undef, undef, undef, undef, undef, undef, undef, undef, undef, undef, undef, undef, undef, undef, undef, undef, undef, undef, undef, undef, undef, undef, undef, undef, undef, undef, undef, undef, undef, undef, undef, undef, undef, undef, undef, undef, undef, undef, undef, undef, undef, undef, undef, undef, undef, undef, undef, undef, undef, undef, undef, undef, undef, undef, undef, undef, undef, undef, undef, undef, undef, undef, undef, undef, undef, undef, undef, undef, undef, undef, undef, undef, undef], defers := [] } wf) :
    Code.wp Tryd.prog (Code.region 8 (opsOf 8) true) Q { tmps := #[.agg #[.int .i64 ea.op, .int .i64 ea.n, .string ea.s, .slice m1 ea.args.length n1], .agg #[.int .i64 eb.op, .int .i64 eb.n, .string eb.s, .slice m2 eb.args.length n2], .agg #[.int .i64 ec.op, .int .i64 ec.n, .string ec.s, .slice m3 ec.args.length n3], .pointer (some ⟨p3, 0, none⟩), .pointer (some ⟨p4, 0, none⟩), .pointer (some ⟨p5, 0, none⟩), .bool false, .pointer (some ⟨g0, 0, none⟩), .pointer (some ⟨g1, 0, none⟩), .pointer (some ⟨g2, 0, none⟩), .string X, .string Y, .string Z, .slice (some ⟨pI, 0, none⟩) 8 8, .slice (some ⟨pS, 0, none⟩) 8 8, undef, undef, undef, undef, u19, u20, u21, u22, u23, u24, u25, u26, u27, u28, u29, u30, u31, u32, u33, u34, u35, u36, u37, u38, u39, u40, u41, u42, .bool false, undef, u45, u46, u47, u48, u49, u50, u51, u52, u53, u54, u55, u56, u57, u58, u59, u60, u61, u62, u63, u64, u65, u66, u67, u68, u69, u70, u71, u72, u73, u74, u75, u76, .bool false, y0, .slice (some ⟨q0, 0, none⟩) 1 1, y2, y3, .slice (some ⟨q1, 0, none⟩) 1 1, y5, y6, .slice (some ⟨q2, 0, none⟩) 1 1, y8, .agg #[.int .i64 ta.op, .int .i64 ta.n, .string ta.s, .slice ma ta.args.length na], .string X, .agg #[.int .i64 tb.op, .int .i64 tb.n, .string tb.s, .slice mb tb.args.length nb], .string Y, .agg #[.int .i64 tc.op, .int .i64 tc.n, .string tc.s, .slice mc tc.args.length nc], .string Z, .slice (some ⟨pI, 0, none⟩) 8 8, .slice (some ⟨pS, 0, none⟩) 8 8, undef, undef, undef, undef, undef, undef, undef, undef, undef, undef, undef, undef, undef, undef, undef, undef, undef, undef, undef, undef, undef, undef, undef, undef, undef, undef, undef, undef, undef, undef, undef, undef, undef, undef, undef, undef, undef, undef, undef, undef, undef, undef, undef, undef, undef, undef, undef, undef, undef, undef, undef, undef, undef, undef, undef, undef, undef, undef, undef, undef, undef, undef, undef, undef, undef, undef, undef, undef, undef, undef, undef, undef, undef, undef, undef, undef, undef, undef, undef, undef, undef, undef, undef, undef, undef, undef, undef, undef, undef, undef, undef, undef, undef, undef, undef, undef, undef, undef, undef, undef, undef, undef, undef, undef, undef, undef, undef, undef, undef, undef, undef, undef, undef, undef, undef, undef, undef, undef, undef, undef, undef, undef, undef, undef, undef, undef, undef, undef, undef, undef, undef, undef, undef, undef, undef, undef], defers := [] } w7 := by
  conv => arg 2; arg 2; whnf
  refine wp_region_G rfl ([.val [] (fun _ => .agg #[.int .i64 ta.op, .int .i64 ta.n, .string ta.s, .slice ma ta.args.length na]), .val [] (fun _ => .agg #[.int .i64 tb.op, .int .i64 tb.n, .string tb.s, .slice mb tb.args.length nb]), .val [] (fun _ => .agg #[.int .i64 tc.op, .int .i64 tc.n, .string tc.s, .slice mc tc.args.length nc]), .blk 2 [] (fun _ => #[.int .i64 tb.op, .int .i64 tb.n, .string tb.s, .slice mb tb.args.length nb, .int .i64 tc.op, .int .i64 tc.n, .string tc.s, .slice mc tc.args.length nc]) 28, .val [3] (fun xs => .agg #[.int .i64 17, .int .i64 0, .string ⟨#[]⟩, xs.getD 0 undef]), .blk 2 [3] (fun xs => #[.int .i64 ta.op, .int .i64 ta.n, .string ta.s, .slice ma ta.args.length na, .int .i64 17, .int .i64 0, .string ⟨#[]⟩, xs.getD 0 undef]) 28, .val [5] (fun xs => .agg #[.int .i64 17, .int .i64 0, .string ⟨#[]⟩, xs.getD 0 undef]), .val [] (fun _ => .int .i64 x1), .val [] (fun _ => .bool false), .val [] (fun _ => .bool false), .val [] (fun _ => .agg #[.int .i64 ta.op, .int .i64 ta.n, .string ta.s, .slice ma ta.args.length na]), .val [] (fun _ => .agg #[.int .i64 tb.op, .int .i64 tb.n, .string tb.s, .slice mb tb.args.length nb]), .blk 2 [] (fun _ => #[.int .i64 ta.op, .int .i64 ta.n, .string ta.s, .slice ma ta.args.length na, .int .i64 tb.op, .int .i64 tb.n, .string tb.s, .slice mb tb.args.length nb]) 28, .val [12] (fun xs => .agg #[.int .i64 17, .int .i64 0, .string ⟨#[]⟩, xs.getD 0 undef]), .val [] (fun _ => .agg #[.int .i64 tc.op, .int .i64 tc.n, .string tc.s, .slice mc tc.args.length nc]), .blk 2 [12] (fun xs => #[.int .i64 17, .int .i64 0, .string ⟨#[]⟩, xs.getD 0 undef, .int .i64 tc.op, .int .i64 tc.n, .string tc.s, .slice mc tc.args.length nc]) 28, .val [15] (fun xs => .agg #[.int .i64 17, .int .i64 0, .string ⟨#[]⟩, xs.getD 0 undef]), .val [] (fun _ => .int .i64 x2), .val [] (fun _ => .bool (x2 != 0)), .val [] (fun _ => .bool (x2 != 0))]) (fun ks ops l a w' => ∃ v0 v1 v2 v3 v4 v5 v6 v7 v8 v9 v10 v11 v12 v13 v14 v15 v16 v17 v18 v19 : Value, a = { tmps := #[.agg #[.int .i64 ea.op, .int .i64 ea.n, .string ea.s, .slice m1 ea.args.length n1], .agg #[.int .i64 eb.op, .int .i64 eb.n, .string eb.s, .slice m2 eb.args.length n2], .agg #[.int .i64 ec.op, .int .i64 ec.n, .string ec.s, .slice m3 ec.args.length n3], .pointer (some ⟨p3, 0, none⟩), .pointer (some ⟨p4, 0, none⟩), .pointer (some ⟨p5, 0, none⟩), .bool false, .pointer (some ⟨g0, 0, none⟩), .pointer (some ⟨g1, 0, none⟩), .pointer (some ⟨g2, 0, none⟩), .string X, .string Y, .string Z, .slice (some ⟨pI, 0, none⟩) 8 8, .slice (some ⟨pS, 0, none⟩) 8 8, undef, undef, undef, undef, u19, u20, u21, u22, u23, u24, u25, u26, u27, u28, u29, u30, u31, u32, u33, u34, u35, u36, u37, u38, u39, u40, u41, u42, .bool false, undef, u45, u46, u47, u48, u49, u50, u51, u52, u53, u54, u55, u56, u57, u58, u59, u60, u61, u62, u63, u64, u65, u66, u67, u68, u69, u70, u71, u72, u73, u74, u75, u76, .bool false, y0, .slice (some ⟨q0, 0, none⟩) 1 1, y2, y3, .slice (some ⟨q1, 0, none⟩) 1 1, y5, y6, .slice (some ⟨q2, 0, none⟩) 1 1, y8, .agg #[.int .i64 ta.op, .int .i64 ta.n, .string ta.s, .slice ma ta.args.length na], .string X, .agg #[.int .i64 tb.op, .int .i64 tb.n, .string tb.s, .slice mb tb.args.length nb], .string Y, .agg #[.int .i64 tc.op, .int .i64 tc.n, .string tc.s, .slice mc tc.args.length nc], .string Z, .slice (some ⟨pI, 0, none⟩) 8 8, .slice (some ⟨pS, 0, none⟩) 8 8, v0, v1, v2, v3, v4, v5, v6, v7, v8, v9, v10, v11, v12, v13, v14, v15, v16, v17, v18, v19, undef, undef, undef, undef, undef, undef, undef, undef, undef, undef, undef, undef, undef, undef, undef, undef, undef, undef, undef, undef, undef, undef, undef, undef, undef, undef, undef, undef, undef, undef, undef, undef, undef, undef, undef, undef, undef, undef, undef, undef, undef, undef, undef, undef, undef, undef, undef, undef, undef, undef, undef, undef, undef, undef, undef, undef, undef, undef, undef, undef, undef, undef, undef, undef, undef, undef, undef, undef, undef, undef, undef, undef, undef, undef, undef, undef, undef, undef, undef, undef, undef, undef, undef, undef, undef, undef, undef, undef, undef, undef, undef, undef, undef, undef, undef, undef, undef, undef, undef, undef, undef, undef, undef, undef, undef, undef, undef, undef, undef, undef, undef, undef, undef, undef, undef, undef], defers := [] } ∧ G ks ops w7 l w' [v0, v1, v2, v3, v4, v5, v6, v7, v8, v9, v10, v11, v12, v13, v14, v15, v16, v17, v18, v19]) (by kernel_rfl) (by kernel_rfl) ?_ ?_ ?_
  · intro l hl
    exact ⟨undef, undef, undef, undef, undef, undef, undef, undef, undef, undef, undef, undef, undef, undef, undef, undef, undef, undef, undef, undef, rfl, G.start _ _ hl _⟩
  · intro hok l a w' hI i hi h0 hall
    obtain ⟨v0, hI⟩ := hI
    obtain ⟨v1, hI⟩ := hI
    obtain ⟨v2, hI⟩ := hI
    obtain ⟨v3, hI⟩ := hI
    obtain ⟨v4, hI⟩ := hI
    obtain ⟨v5, hI⟩ := hI
    obtain ⟨v6, hI⟩ := hI
    obtain ⟨v7, hI⟩ := hI
    obtain ⟨v8, hI⟩ := hI
    obtain ⟨v9, hI⟩ := hI
    obtain ⟨v10, hI⟩ := hI
    obtain ⟨v11, hI⟩ := hI
    obtain ⟨v12, hI⟩ := hI
    obtain ⟨v13, hI⟩ := hI
    obtain ⟨v14, hI⟩ := hI
    obtain ⟨v15, hI⟩ := hI
    obtain ⟨v16, hI⟩ := hI
    obtain ⟨v17, hI⟩ := hI
    obtain ⟨v18, hI⟩ := hI
    obtain ⟨v19, hI⟩ := hI
    obtain ⟨rfl, F⟩ := hI
    match i, hi, h0, hall with
    | 0, _, h0, hall =>
      have x := HXta.out.below F.bel
      have x_0 : w'.cell? ⟨g0, 0, none⟩ = some (.int .i64 ta.op) := x.cell 0
      have x_1 : w'.cell? ⟨g0, 1, none⟩ = some (.int .i64 ta.n) := x.cell 1
      have x_2 : w'.cell? ⟨g0, 2, none⟩ = some (.string ta.s) := x.cell 2
      have x_3 : w'.cell? ⟨g0, 3, none⟩ = some (.slice ma ta.args.length na) := x.cell 3
      clear x
      have HF := Lib.hid (show G _ _ _ _ _ [.agg #[.int .i64 ta.op, .int .i64 ta.n, .string ta.s, .slice ma ta.args.length na], v1, v2, v3, v4, v5, v6, v7, v8, v9, v10, v11, v12, v13, v14, v15, v16, v17, v18, v19] from G.val hok F h0 hall (x := .agg #[.int .i64 ta.op, .int .i64 ta.n, .string ta.s, .slice ma ta.args.length na]) rfl (show 0 < 20 by decide) (Below.refl _ _) rfl)
      clear F hall h0
      refine wpOp_step (by rfl) (fun K' hK => ?_)
      have HKk := Lib.hid hK
      clear hK
      go_simp
      exact HKk.out _ _ ⟨.agg #[.int .i64 ta.op, .int .i64 ta.n, .string ta.s, .slice ma ta.args.length na], v1, v2, v3, v4, v5, v6, v7, v8, v9, v10, v11, v12, v13, v14, v15, v16, v17, v18, v19, rfl, HF.out⟩
    | 1, _, h0, hall =>
      have x := HXtb.out.below F.bel
      have x_0 : w'.cell? ⟨g1, 0, none⟩ = some (.int .i64 tb.op) := x.cell 0
      have x_1 : w'.cell? ⟨g1, 1, none⟩ = some (.int .i64 tb.n) := x.cell 1
      have x_2 : w'.cell? ⟨g1, 2, none⟩ = some (.string tb.s) := x.cell 2
      have x_3 : w'.cell? ⟨g1, 3, none⟩ = some (.slice mb tb.args.length nb) := x.cell 3
      clear x
      have HF := Lib.hid (show G _ _ _ _ _ [v0, .agg #[.int .i64 tb.op, .int .i64 tb.n, .string tb.s, .slice mb tb.args.length nb], v2, v3, v4, v5, v6, v7, v8, v9, v10, v11, v12, v13, v14, v15, v16, v17, v18, v19] from G.val hok F h0 hall (x := .agg #[.int .i64 tb.op, .int .i64 tb.n, .string tb.s, .slice mb tb.args.length nb]) rfl (show 1 < 20 by decide) (Below.refl _ _) rfl)
      clear F hall h0
      refine wpOp_step (by rfl) (fun K' hK => ?_)
      have HKk := Lib.hid hK
      clear hK
      go_simp
      exact HKk.out _ _ ⟨v0, .agg #[.int .i64 tb.op, .int .i64 tb.n, .string tb.s, .slice mb tb.args.length nb], v2, v3, v4, v5, v6, v7, v8, v9, v10, v11, v12, v13, v14, v15, v16, v17, v18, v19, rfl, HF.out⟩
    | 2, _, h0, hall =>
      have x := HXtc.out.below F.bel
      have x_0 : w'.cell? ⟨g2, 0, none⟩ = some (.int .i64 tc.op) := x.cell 0
      have x_1 : w'.cell? ⟨g2, 1, none⟩ = some (.int .i64 tc.n) := x.cell 1
      have x_2 : w'.cell? ⟨g2, 2, none⟩ = some (.string tc.s) := x.cell 2
      have x_3 : w'.cell? ⟨g2, 3, none⟩ = some (.slice mc tc.args.length nc) := x.cell 3
      clear x
      have HF := Lib.hid (show G _ _ _ _ _ [v0, v1, .agg #[.int .i64 tc.op, .int .i64 tc.n, .string tc.s, .slice mc tc.args.length nc], v3, v4, v5, v6, v7, v8, v9, v10, v11, v12, v13, v14, v15, v16, v17, v18, v19] from G.val hok F h0 hall (x := .agg #[.int .i64 tc.op, .int .i64 tc.n, .string tc.s, .slice mc tc.args.length nc]) rfl (show 2 < 20 by decide) (Below.refl _ _) rfl)
      clear F hall h0
      refine wpOp_step (by rfl) (fun K' hK => ?_)
      have HKk := Lib.hid hK
      clear hK
      go_simp
      exact HKk.out _ _ ⟨v0, v1, .agg #[.int .i64 tc.op, .int .i64 tc.n, .string tc.s, .slice mc tc.args.length nc], v3, v4, v5, v6, v7, v8, v9, v10, v11, v12, v13, v14, v15, v16, v17, v18, v19, rfl, HF.out⟩
    | 3, _, h0, hall =>
      obtain rfl : v1 = .agg #[.int .i64 tb.op, .int .i64 tb.n, .string tb.s, .slice mb tb.args.length nb] := F.fs 1 (hall 1 (by decide +kernel))
      obtain rfl : v2 = .agg #[.int .i64 tc.op, .int .i64 tc.n, .string tc.s, .slice mc tc.args.length nc] := F.fs 2 (hall 2 (by decide +kernel))
      have HF := Lib.hid (show G _ _ _ _ _ [v0, (.agg #[.int .i64 tb.op, .int .i64 tb.n, .string tb.s, .slice mb tb.args.length nb]), (.agg #[.int .i64 tc.op, .int .i64 tc.n, .string tc.s, .slice mc tc.args.length nc]), .slice (some ⟨w'.heap.size, 0, none⟩) 2 2, v4, v5, v6, v7, v8, v9, v10, v11, v12, v13, v14, v15, v16, v17, v18, v19] from G.blk hok F h0 hall (n := 2) (c := #[.int .i64 tb.op, .int .i64 tb.n, .string tb.s, .slice mb tb.args.length nb, .int .i64 tc.op, .int .i64 tc.n, .string tc.s, .slice mc tc.args.length nc]) rfl (show 3 < 20 by decide) rfl)
      clear F hall h0
      refine wpOp_step (by rfl) (fun K' hK => ?_)
      have HKk := Lib.hid hK
      clear hK
      go_simp
      exact HKk.out _ _ ⟨v0, (.agg #[.int .i64 tb.op, .int .i64 tb.n, .string tb.s, .slice mb tb.args.length nb]), (.agg #[.int .i64 tc.op, .int .i64 tc.n, .string tc.s, .slice mc tc.args.length nc]), .slice (some ⟨w'.heap.size, 0, none⟩) 2 2, v4, v5, v6, v7, v8, v9, v10, v11, v12, v13, v14, v15, v16, v17, v18, v19, rfl, HF.out⟩
    | 4, _, h0, hall =>
      obtain ⟨g3, e3, x3⟩ : ∃ q, v3 = .slice (some ⟨q, 0, none⟩) 2 2 ∧ Bx w' q #[.int .i64 tb.op, .int .i64 tb.n, .string tb.s, .slice mb tb.args.length nb, .int .i64 tc.op, .int .i64 tc.n, .string tc.s, .slice mc tc.args.length nc] 28 := F.fs 3 (hall 3 (by decide +kernel))
      subst e3
      have HF := Lib.hid (fun w2 (hb : Below w'.heap.size w' w2) => show G _ _ _ _ w2 [v0, v1, v2, (.slice (some ⟨g3, 0, none⟩) 2 2), .agg #[.int .i64 17, .int .i64 0, .string ⟨#[]⟩, (.slice (some ⟨g3, 0, none⟩) 2 2)], v5, v6, v7, v8, v9, v10, v11, v12, v13, v14, v15, v16, v17, v18, v19] from G.val hok F h0 hall (x := .agg #[.int .i64 17, .int .i64 0, .string ⟨#[]⟩, (.slice (some ⟨g3, 0, none⟩) 2 2)]) rfl (show 4 < 20 by decide) hb rfl)
      clear F hall h0
      refine wpOp_step (by rfl) (fun K' hK => ?_)
      have HKk := Lib.hid hK
      clear hK
      go_simp
      refine (HAp.out _ _ _ _ _).mono ?_
      rintro er w2 ⟨rfl, hb⟩
      replace HF := Lib.hid (HF.out w2 hb)
      exact HKk.out _ _ ⟨v0, v1, v2, (.slice (some ⟨g3, 0, none⟩) 2 2), .agg #[.int .i64 17, .int .i64 0, .string ⟨#[]⟩, (.slice (some ⟨g3, 0, none⟩) 2 2)], v5, v6, v7, v8, v9, v10, v11, v12, v13, v14, v15, v16, v17, v18, v19, rfl, HF.out⟩
    | 5, _, h0, hall =>
      obtain rfl : v0 = .agg #[.int .i64 ta.op, .int .i64 ta.n, .string ta.s, .slice ma ta.args.length na] := F.fs 0 (hall 0 (by decide +kernel))
      obtain ⟨g3, e3, x3⟩ : ∃ q, v3 = .slice (some ⟨q, 0, none⟩) 2 2 ∧ Bx w' q #[.int .i64 tb.op, .int .i64 tb.n, .string tb.s, .slice mb tb.args.length nb, .int .i64 tc.op, .int .i64 tc.n, .string tc.s, .slice mc tc.args.length nc] 28 := F.fs 3 (F.cl 4 (hall 4 (by decide +kernel)) 3 (by decide +kernel))
      subst e3
      obtain rfl : v4 = .agg #[.int .i64 17, .int .i64 0, .string ⟨#[]⟩, (.slice (some ⟨g3, 0, none⟩) 2 2)] := F.fs 4 (hall 4 (by decide +kernel))
      have HF := Lib.hid (show G _ _ _ _ _ [(.agg #[.int .i64 ta.op, .int .i64 ta.n, .string ta.s, .slice ma ta.args.length na]), v1, v2, (.slice (some ⟨g3, 0, none⟩) 2 2), (.agg #[.int .i64 17, .int .i64 0, .string ⟨#[]⟩, (.slice (some ⟨g3, 0, none⟩) 2 2)]), .slice (some ⟨w'.heap.size, 0, none⟩) 2 2, v6, v7, v8, v9, v10, v11, v12, v13, v14, v15, v16, v17, v18, v19] from G.blk hok F h0 hall (n := 2) (c := #[.int .i64 ta.op, .int .i64 ta.n, .string ta.s, .slice ma ta.args.length na, .int .i64 17, .int .i64 0, .string ⟨#[]⟩, (.slice (some ⟨g3, 0, none⟩) 2 2)]) rfl (show 5 < 20 by decide) rfl)
      clear F hall h0
      refine wpOp_step (by rfl) (fun K' hK => ?_)
      have HKk := Lib.hid hK
      clear hK
      go_simp
      exact HKk.out _ _ ⟨(.agg #[.int .i64 ta.op, .int .i64 ta.n, .string ta.s, .slice ma ta.args.length na]), v1, v2, (.slice (some ⟨g3, 0, none⟩) 2 2), (.agg #[.int .i64 17, .int .i64 0, .string ⟨#[]⟩, (.slice (some ⟨g3, 0, none⟩) 2 2)]), .slice (some ⟨w'.heap.size, 0, none⟩) 2 2, v6, v7, v8, v9, v10, v11, v12, v13, v14, v15, v16, v17, v18, v19, rfl, HF.out⟩
    | 6, _, h0, hall =>
      obtain ⟨g3, e3, x3⟩ : ∃ q, v3 = .slice (some ⟨q, 0, none⟩) 2 2 ∧ Bx w' q #[.int .i64 tb.op, .int .i64 tb.n, .string tb.s, .slice mb tb.args.length nb, .int .i64 tc.op, .int .i64 tc.n, .string tc.s, .slice mc tc.args.length nc] 28 := F.fs 3 (F.cl 4 (F.cl 5 (hall 5 (by decide +kernel)) 4 (by decide +kernel)) 3 (by decide +kernel))
      subst e3
      obtain ⟨g5, e5, x5⟩ : ∃ q, v5 = .slice (some ⟨q, 0, none⟩) 2 2 ∧ Bx w' q #[.int .i64 ta.op, .int .i64 ta.n, .string ta.s, .slice ma ta.args.length na, .int .i64 17, .int .i64 0, .string ⟨#[]⟩, (.slice (some ⟨g3, 0, none⟩) 2 2)] 28 := F.fs 5 (hall 5 (by decide +kernel))
      subst e5
      have HF := Lib.hid (fun w2 (hb : Below w'.heap.size w' w2) => show G _ _ _ _ w2 [v0, v1, v2, (.slice (some ⟨g3, 0, none⟩) 2 2), v4, (.slice (some ⟨g5, 0, none⟩) 2 2), .agg #[.int .i64 17, .int .i64 0, .string ⟨#[]⟩, (.slice (some ⟨g5, 0, none⟩) 2 2)], v7, v8, v9, v10, v11, v12, v13, v14, v15, v16, v17, v18, v19] from G.val hok F h0 hall (x := .agg #[.int .i64 17, .int .i64 0, .string ⟨#[]⟩, (.slice (some ⟨g5, 0, none⟩) 2 2)]) rfl (show 6 < 20 by decide) hb rfl)
      clear F hall h0
      refine wpOp_step (by rfl) (fun K' hK => ?_)
      have HKk := Lib.hid hK
      clear hK
      go_simp
      refine (HAp.out _ _ _ _ _).mono ?_
      rintro er w2 ⟨rfl, hb⟩
      replace HF := Lib.hid (HF.out w2 hb)
      exact HKk.out _ _ ⟨v0, v1, v2, (.slice (some ⟨g3, 0, none⟩) 2 2), v4, (.slice (some ⟨g5, 0, none⟩) 2 2), .agg #[.int .i64 17, .int .i64 0, .string ⟨#[]⟩, (.slice (some ⟨g5, 0, none⟩) 2 2)], v7, v8, v9, v10, v11, v12, v13, v14, v15, v16, v17, v18, v19, rfl, HF.out⟩
    | 7, _, h0, hall =>
      obtain ⟨g3, e3, x3⟩ : ∃ q, v3 = .slice (some ⟨q, 0, none⟩) 2 2 ∧ Bx w' q #[.int .i64 tb.op, .int .i64 tb.n, .string tb.s, .slice mb tb.args.length nb, .int .i64 tc.op, .int .i64 tc.n, .string tc.s, .slice mc tc.args.length nc] 28 := F.fs 3 (F.cl 4 (F.cl 5 (F.cl 6 (hall 6 (by decide +kernel)) 5 (by decide +kernel)) 4 (by decide +kernel)) 3 (by decide +kernel))
      subst e3
      obtain ⟨g5, e5, x5⟩ : ∃ q, v5 = .slice (some ⟨q, 0, none⟩) 2 2 ∧ Bx w' q #[.int .i64 ta.op, .int .i64 ta.n, .string ta.s, .slice ma ta.args.length na, .int .i64 17, .int .i64 0, .string ⟨#[]⟩, (.slice (some ⟨g3, 0, none⟩) 2 2)] 28 := F.fs 5 (F.cl 6 (hall 6 (by decide +kernel)) 5 (by decide +kernel))
      subst e5
      obtain rfl : v6 = .agg #[.int .i64 17, .int .i64 0, .string ⟨#[]⟩, (.slice (some ⟨g5, 0, none⟩) 2 2)] := F.fs 6 (hall 6 (by decide +kernel))
      have HC := Lib.hid (ovalidExpr_any (b2 17 ta (b2 17 tb tc)) (some ⟨g5, 0, none⟩) 2 (ok_bi 17 (by decide) (by decide) HOta.out (ok_bi 17 (by decide) (by decide) HOtb.out HOtc.out)) w' (kids_2 (e := ta) (f := (b2 17 tb tc)) x5 (HKta.out.below F.bel) (kids_2 (e := tb) (f := tc) x3 (HKtb.out.below F.bel) (HKtc.out.below F.bel))))
      rw [E1.out] at HC
      have HF := Lib.hid (fun w2 (hb : Below w'.heap.size w' w2) => show G _ _ _ _ w2 [v0, v1, v2, (.slice (some ⟨g3, 0, none⟩) 2 2), v4, (.slice (some ⟨g5, 0, none⟩) 2 2), (.agg #[.int .i64 17, .int .i64 0, .string ⟨#[]⟩, (.slice (some ⟨g5, 0, none⟩) 2 2)]), .int .i64 x1, v8, v9, v10, v11, v12, v13, v14, v15, v16, v17, v18, v19] from G.val hok F h0 hall (x := .int .i64 x1) rfl (show 7 < 20 by decide) hb rfl)
      clear F hall h0
      refine wpOp_step (by rfl) (fun K' hK => ?_)
      have HKk := Lib.hid hK
      clear hK
      go_simp
      refine HC.out.mono ?_
      rintro er w2 ⟨rfl, hb⟩
      replace HF := Lib.hid (HF.out w2 hb)
      exact HKk.out _ _ ⟨v0, v1, v2, (.slice (some ⟨g3, 0, none⟩) 2 2), v4, (.slice (some ⟨g5, 0, none⟩) 2 2), (.agg #[.int .i64 17, .int .i64 0, .string ⟨#[]⟩, (.slice (some ⟨g5, 0, none⟩) 2 2)]), .int .i64 x1, v8, v9, v10, v11, v12, v13, v14, v15, v16, v17, v18, v19, rfl, HF.out⟩
    | 8, _, h0, hall =>
      obtain rfl : v7 = .int .i64 x1 := F.fs 7 (hall 7 (by decide +kernel))
      have HF := Lib.hid (show G _ _ _ _ _ [v0, v1, v2, v3, v4, v5, v6, (.int .i64 x1), .bool false, v9, v10, v11, v12, v13, v14, v15, v16, v17, v18, v19] from G.val hok F h0 hall (x := .bool false) rfl (show 8 < 20 by decide) (Below.refl _ _) rfl)
      clear F hall h0
      refine wpOp_step (by rfl) (fun K' hK => ?_)
      have HKk := Lib.hid hK
      clear hK
      go_simp
      exact HKk.out _ _ ⟨v0, v1, v2, v3, v4, v5, v6, (.int .i64 x1), .bool false, v9, v10, v11, v12, v13, v14, v15, v16, v17, v18, v19, rfl, HF.out⟩
    | 9, _, h0, hall =>
      obtain rfl : v8 = .bool false := F.fs 8 (hall 8 (by decide +kernel))
      have HF := Lib.hid (show G _ _ _ _ _ [v0, v1, v2, v3, v4, v5, v6, v7, (.bool false), .bool false, v10, v11, v12, v13, v14, v15, v16, v17, v18, v19] from G.val hok F h0 hall (x := .bool false) rfl (show 9 < 20 by decide) (Below.refl _ _) rfl)
      clear F hall h0
      refine wpOp_step (by rfl) (fun K' hK => ?_)
      have HKk := Lib.hid hK
      clear hK
      go_simp
      exact HKk.out _ _ ⟨v0, v1, v2, v3, v4, v5, v6, v7, (.bool false), .bool false, v10, v11, v12, v13, v14, v15, v16, v17, v18, v19, rfl, HF.out⟩
    | 10, _, h0, hall =>
      have x := HXta.out.below F.bel
      have x_0 : w'.cell? ⟨g0, 0, none⟩ = some (.int .i64 ta.op) := x.cell 0
      have x_1 : w'.cell? ⟨g0, 1, none⟩ = some (.int .i64 ta.n) := x.cell 1
      have x_2 : w'.cell? ⟨g0, 2, none⟩ = some (.string ta.s) := x.cell 2
      have x_3 : w'.cell? ⟨g0, 3, none⟩ = some (.slice ma ta.args.length na) := x.cell 3
      clear x
      obtain rfl : v9 = .bool false := F.fs 9 (hall 9 (by decide +kernel))
      have HF := Lib.hid (show G _ _ _ _ _ [v0, v1, v2, v3, v4, v5, v6, v7, v8, (.bool false), .agg #[.int .i64 ta.op, .int .i64 ta.n, .string ta.s, .slice ma ta.args.length na], v11, v12, v13, v14, v15, v16, v17, v18, v19] from G.val hok F h0 hall (x := .agg #[.int .i64 ta.op, .int .i64 ta.n, .string ta.s, .slice ma ta.args.length na]) rfl (show 10 < 20 by decide) (Below.refl _ _) rfl)
      clear F hall h0
      refine wpOp_step (by rfl) (fun K' hK => ?_)
      have HKk := Lib.hid hK
      clear hK
      go_simp
      exact HKk.out _ _ ⟨v0, v1, v2, v3, v4, v5, v6, v7, v8, (.bool false), .agg #[.int .i64 ta.op, .int .i64 ta.n, .string ta.s, .slice ma ta.args.length na], v11, v12, v13, v14, v15, v16, v17, v18, v19, rfl, HF.out⟩
    | 11, _, h0, hall =>
      have x := HXtb.out.below F.bel
      have x_0 : w'.cell? ⟨g1, 0, none⟩ = some (.int .i64 tb.op) := x.cell 0
      have x_1 : w'.cell? ⟨g1, 1, none⟩ = some (.int .i64 tb.n) := x.cell 1
      have x_2 : w'.cell? ⟨g1, 2, none⟩ = some (.string tb.s) := x.cell 2
      have x_3 : w'.cell? ⟨g1, 3, none⟩ = some (.slice mb tb.args.length nb) := x.cell 3
      clear x
      obtain rfl : v9 = .bool false := F.fs 9 (hall 9 (by decide +kernel))
      have HF := Lib.hid (show G _ _ _ _ _ [v0, v1, v2, v3, v4, v5, v6, v7, v8, (.bool false), v10, .agg #[.int .i64 tb.op, .int .i64 tb.n, .string tb.s, .slice mb tb.args.length nb], v12, v13, v14, v15, v16, v17, v18, v19] from G.val hok F h0 hall (x := .agg #[.int .i64 tb.op, .int .i64 tb.n, .string tb.s, .slice mb tb.args.length nb]) rfl (show 11 < 20 by decide) (Below.refl _ _) rfl)
      clear F hall h0
      refine wpOp_step (by rfl) (fun K' hK => ?_)
      have HKk := Lib.hid hK
      clear hK
      go_simp
      exact HKk.out _ _ ⟨v0, v1, v2, v3, v4, v5, v6, v7, v8, (.bool false), v10, .agg #[.int .i64 tb.op, .int .i64 tb.n, .string tb.s, .slice mb tb.args.length nb], v12, v13, v14, v15, v16, v17, v18, v19, rfl, HF.out⟩
    | 12, _, h0, hall =>
      obtain rfl : v9 = .bool false := F.fs 9 (hall 9 (by decide +kernel))
      obtain rfl : v10 = .agg #[.int .i64 ta.op, .int .i64 ta.n, .string ta.s, .slice ma ta.args.length na] := F.fs 10 (hall 10 (by decide +kernel))
      obtain rfl : v11 = .agg #[.int .i64 tb.op, .int .i64 tb.n, .string tb.s, .slice mb tb.args.length nb] := F.fs 11 (hall 11 (by decide +kernel))
      have HF := Lib.hid (show G _ _ _ _ _ [v0, v1, v2, v3, v4, v5, v6, v7, v8, (.bool false), (.agg #[.int .i64 ta.op, .int .i64 ta.n, .string ta.s, .slice ma ta.args.length na]), (.agg #[.int .i64 tb.op, .int .i64 tb.n, .string tb.s, .slice mb tb.args.length nb]), .slice (some ⟨w'.heap.size, 0, none⟩) 2 2, v13, v14, v15, v16, v17, v18, v19] from G.blk hok F h0 hall (n := 2) (c := #[.int .i64 ta.op, .int .i64 ta.n, .string ta.s, .slice ma ta.args.length na, .int .i64 tb.op, .int .i64 tb.n, .string tb.s, .slice mb tb.args.length nb]) rfl (show 12 < 20 by decide) rfl)
      clear F hall h0
      refine wpOp_step (by rfl) (fun K' hK => ?_)
      have HKk := Lib.hid hK
      clear hK
      go_simp
      exact HKk.out _ _ ⟨v0, v1, v2, v3, v4, v5, v6, v7, v8, (.bool false), (.agg #[.int .i64 ta.op, .int .i64 ta.n, .string ta.s, .slice ma ta.args.length na]), (.agg #[.int .i64 tb.op, .int .i64 tb.n, .string tb.s, .slice mb tb.args.length nb]), .slice (some ⟨w'.heap.size, 0, none⟩) 2 2, v13, v14, v15, v16, v17, v18, v19, rfl, HF.out⟩
    | 13, _, h0, hall =>
      obtain rfl : v9 = .bool false := F.fs 9 (hall 9 (by decide +kernel))
      obtain ⟨g12, e12, x12⟩ : ∃ q, v12 = .slice (some ⟨q, 0, none⟩) 2 2 ∧ Bx w' q #[.int .i64 ta.op, .int .i64 ta.n, .string ta.s, .slice ma ta.args.length na, .int .i64 tb.op, .int .i64 tb.n, .string tb.s, .slice mb tb.args.length nb] 28 := F.fs 12 (hall 12 (by decide +kernel))
      subst e12
      have HF := Lib.hid (fun w2 (hb : Below w'.heap.size w' w2) => show G _ _ _ _ w2 [v0, v1, v2, v3, v4, v5, v6, v7, v8, (.bool false), v10, v11, (.slice (some ⟨g12, 0, none⟩) 2 2), .agg #[.int .i64 17, .int .i64 0, .string ⟨#[]⟩, (.slice (some ⟨g12, 0, none⟩) 2 2)], v14, v15, v16, v17, v18, v19] from G.val hok F h0 hall (x := .agg #[.int .i64 17, .int .i64 0, .string ⟨#[]⟩, (.slice (some ⟨g12, 0, none⟩) 2 2)]) rfl (show 13 < 20 by decide) hb rfl)
      clear F hall h0
      refine wpOp_step (by rfl) (fun K' hK => ?_)
      have HKk := Lib.hid hK
      clear hK
      go_simp
      refine (HAp.out _ _ _ _ _).mono ?_
      rintro er w2 ⟨rfl, hb⟩
      replace HF := Lib.hid (HF.out w2 hb)
      exact HKk.out _ _ ⟨v0, v1, v2, v3, v4, v5, v6, v7, v8, (.bool false), v10, v11, (.slice (some ⟨g12, 0, none⟩) 2 2), .agg #[.int .i64 17, .int .i64 0, .string ⟨#[]⟩, (.slice (some ⟨g12, 0, none⟩) 2 2)], v14, v15, v16, v17, v18, v19, rfl, HF.out⟩
    | 14, _, h0, hall =>
      have x := HXtc.out.below F.bel
      have x_0 : w'.cell? ⟨g2, 0, none⟩ = some (.int .i64 tc.op) := x.cell 0
      have x_1 : w'.cell? ⟨g2, 1, none⟩ = some (.int .i64 tc.n) := x.cell 1
      have x_2 : w'.cell? ⟨g2, 2, none⟩ = some (.string tc.s) := x.cell 2
      have x_3 : w'.cell? ⟨g2, 3, none⟩ = some (.slice mc tc.args.length nc) := x.cell 3
      clear x
      obtain rfl : v9 = .bool false := F.fs 9 (hall 9 (by decide +kernel))
      have HF := Lib.hid (show G _ _ _ _ _ [v0, v1, v2, v3, v4, v5, v6, v7, v8, (.bool false), v10, v11, v12, v13, .agg #[.int .i64 tc.op, .int .i64 tc.n, .string tc.s, .slice mc tc.args.length nc], v15, v16, v17, v18, v19] from G.val hok F h0 hall (x := .agg #[.int .i64 tc.op, .int .i64 tc.n, .string tc.s, .slice mc tc.args.length nc]) rfl (show 14 < 20 by decide) (Below.refl _ _) rfl)
      clear F hall h0
      refine wpOp_step (by rfl) (fun K' hK => ?_)
      have HKk := Lib.hid hK
      clear hK
      go_simp
      exact HKk.out _ _ ⟨v0, v1, v2, v3, v4, v5, v6, v7, v8, (.bool false), v10, v11, v12, v13, .agg #[.int .i64 tc.op, .int .i64 tc.n, .string tc.s, .slice mc tc.args.length nc], v15, v16, v17, v18, v19, rfl, HF.out⟩
    | 15, _, h0, hall =>
      obtain rfl : v9 = .bool false := F.fs 9 (hall 9 (by decide +kernel))
      obtain ⟨g12, e12, x12⟩ : ∃ q, v12 = .slice (some ⟨q, 0, none⟩) 2 2 ∧ Bx w' q #[.int .i64 ta.op, .int .i64 ta.n, .string ta.s, .slice ma ta.args.length na, .int .i64 tb.op, .int .i64 tb.n, .string tb.s, .slice mb tb.args.length nb] 28 := F.fs 12 (F.cl 13 (hall 13 (by decide +kernel)) 12 (by decide +kernel))
      subst e12
      obtain rfl : v13 = .agg #[.int .i64 17, .int .i64 0, .string ⟨#[]⟩, (.slice (some ⟨g12, 0, none⟩) 2 2)] := F.fs 13 (hall 13 (by decide +kernel))
      obtain rfl : v14 = .agg #[.int .i64 tc.op, .int .i64 tc.n, .string tc.s, .slice mc tc.args.length nc] := F.fs 14 (hall 14 (by decide +kernel))
      have HF := Lib.hid (show G _ _ _ _ _ [v0, v1, v2, v3, v4, v5, v6, v7, v8, (.bool false), v10, v11, (.slice (some ⟨g12, 0, none⟩) 2 2), (.agg #[.int .i64 17, .int .i64 0, .string ⟨#[]⟩, (.slice (some ⟨g12, 0, none⟩) 2 2)]), (.agg #[.int .i64 tc.op, .int .i64 tc.n, .string tc.s, .slice mc tc.args.length nc]), .slice (some ⟨w'.heap.size, 0, none⟩) 2 2, v16, v17, v18, v19] from G.blk hok F h0 hall (n := 2) (c := #[.int .i64 17, .int .i64 0, .string ⟨#[]⟩, (.slice (some ⟨g12, 0, none⟩) 2 2), .int .i64 tc.op, .int .i64 tc.n, .string tc.s, .slice mc tc.args.length nc]) rfl (show 15 < 20 by decide) rfl)
      clear F hall h0
      refine wpOp_step (by rfl) (fun K' hK => ?_)
      have HKk := Lib.hid hK
      clear hK
      go_simp
      exact HKk.out _ _ ⟨v0, v1, v2, v3, v4, v5, v6, v7, v8, (.bool false), v10, v11, (.slice (some ⟨g12, 0, none⟩) 2 2), (.agg #[.int .i64 17, .int .i64 0, .string ⟨#[]⟩, (.slice (some ⟨g12, 0, none⟩) 2 2)]), (.agg #[.int .i64 tc.op, .int .i64 tc.n, .string tc.s, .slice mc tc.args.length nc]), .slice (some ⟨w'.heap.size, 0, none⟩) 2 2, v16, v17, v18, v19, rfl, HF.out⟩
    | 16, _, h0, hall =>
      obtain rfl : v9 = .bool false := F.fs 9 (hall 9 (by decide +kernel))
      obtain ⟨g12, e12, x12⟩ : ∃ q, v12 = .slice (some ⟨q, 0, none⟩) 2 2 ∧ Bx w' q #[.int .i64 ta.op, .int .i64 ta.n, .string ta.s, .slice ma ta.args.length na, .int .i64 tb.op, .int .i64 tb.n, .string tb.s, .slice mb tb.args.length nb] 28 := F.fs 12 (F.cl 13 (F.cl 15 (hall 15 (by decide +kernel)) 13 (by decide +kernel)) 12 (by decide +kernel))
      subst e12
      obtain ⟨g15, e15, x15⟩ : ∃ q, v15 = .slice (some ⟨q, 0, none⟩) 2 2 ∧ Bx w' q #[.int .i64 17, .int .i64 0, .string ⟨#[]⟩, (.slice (some ⟨g12, 0, none⟩) 2 2), .int .i64 tc.op, .int .i64 tc.n, .string tc.s, .slice mc tc.args.length nc] 28 := F.fs 15 (hall 15 (by decide +kernel))
      subst e15
      have HF := Lib.hid (fun w2 (hb : Below w'.heap.size w' w2) => show G _ _ _ _ w2 [v0, v1, v2, v3, v4, v5, v6, v7, v8, (.bool false), v10, v11, (.slice (some ⟨g12, 0, none⟩) 2 2), v13, v14, (.slice (some ⟨g15, 0, none⟩) 2 2), .agg #[.int .i64 17, .int .i64 0, .string ⟨#[]⟩, (.slice (some ⟨g15, 0, none⟩) 2 2)], v17, v18, v19] from G.val hok F h0 hall (x := .agg #[.int .i64 17, .int .i64 0, .string ⟨#[]⟩, (.slice (some ⟨g15, 0, none⟩) 2 2)]) rfl (show 16 < 20 by decide) hb rfl)
      clear F hall h0
      refine wpOp_step (by rfl) (fun K' hK => ?_)
      have HKk := Lib.hid hK
      clear hK
      go_simp
      refine (HAp.out _ _ _ _ _).mono ?_
      rintro er w2 ⟨rfl, hb⟩
      replace HF := Lib.hid (HF.out w2 hb)
      exact HKk.out _ _ ⟨v0, v1, v2, v3, v4, v5, v6, v7, v8, (.bool false), v10, v11, (.slice (some ⟨g12, 0, none⟩) 2 2), v13, v14, (.slice (some ⟨g15, 0, none⟩) 2 2), .agg #[.int .i64 17, .int .i64 0, .string ⟨#[]⟩, (.slice (some ⟨g15, 0, none⟩) 2 2)], v17, v18, v19, rfl, HF.out⟩
    | 17, _, h0, hall =>
      obtain rfl : v9 = .bool false := F.fs 9 (hall 9 (by decide +kernel))
      obtain ⟨g12, e12, x12⟩ : ∃ q, v12 = .slice (some ⟨q, 0, none⟩) 2 2 ∧ Bx w' q #[.int .i64 ta.op, .int .i64 ta.n, .string ta.s, .slice ma ta.args.length na, .int .i64 tb.op, .int .i64 tb.n, .string tb.s, .slice mb tb.args.length nb] 28 := F.fs 12 (F.cl 13 (F.cl 15 (F.cl 16 (hall 16 (by decide +kernel)) 15 (by decide +kernel)) 13 (by decide +kernel)) 12 (by decide +kernel))
      subst e12
      obtain ⟨g15, e15, x15⟩ : ∃ q, v15 = .slice (some ⟨q, 0, none⟩) 2 2 ∧ Bx w' q #[.int .i64 17, .int .i64 0, .string ⟨#[]⟩, (.slice (some ⟨g12, 0, none⟩) 2 2), .int .i64 tc.op, .int .i64 tc.n, .string tc.s, .slice mc tc.args.length nc] 28 := F.fs 15 (F.cl 16 (hall 16 (by decide +kernel)) 15 (by decide +kernel))
      subst e15
      obtain rfl : v16 = .agg #[.int .i64 17, .int .i64 0, .string ⟨#[]⟩, (.slice (some ⟨g15, 0, none⟩) 2 2)] := F.fs 16 (hall 16 (by decide +kernel))
      have HC := Lib.hid (ovalidExpr_any (b2 17 (b2 17 ta tb) tc) (some ⟨g15, 0, none⟩) 2 (ok_bi 17 (by decide) (by decide) (ok_bi 17 (by decide) (by decide) HOta.out HOtb.out) HOtc.out) w' (kids_2 (e := (b2 17 ta tb)) (f := tc) x15 (kids_2 (e := ta) (f := tb) x12 (HKta.out.below F.bel) (HKtb.out.below F.bel)) (HKtc.out.below F.bel)))
      rw [E2.out] at HC
      have HF := Lib.hid (fun w2 (hb : Below w'.heap.size w' w2) => show G _ _ _ _ w2 [v0, v1, v2, v3, v4, v5, v6, v7, v8, (.bool false), v10, v11, (.slice (some ⟨g12, 0, none⟩) 2 2), v13, v14, (.slice (some ⟨g15, 0, none⟩) 2 2), (.agg #[.int .i64 17, .int .i64 0, .string ⟨#[]⟩, (.slice (some ⟨g15, 0, none⟩) 2 2)]), .int .i64 x2, v18, v19] from G.val hok F h0 hall (x := .int .i64 x2) rfl (show 17 < 20 by decide) hb rfl)
      clear F hall h0
      refine wpOp_step (by rfl) (fun K' hK => ?_)
      have HKk := Lib.hid hK
      clear hK
      go_simp
      refine HC.out.mono ?_
      rintro er w2 ⟨rfl, hb⟩
      replace HF := Lib.hid (HF.out w2 hb)
      exact HKk.out _ _ ⟨v0, v1, v2, v3, v4, v5, v6, v7, v8, (.bool false), v10, v11, (.slice (some ⟨g12, 0, none⟩) 2 2), v13, v14, (.slice (some ⟨g15, 0, none⟩) 2 2), (.agg #[.int .i64 17, .int .i64 0, .string ⟨#[]⟩, (.slice (some ⟨g15, 0, none⟩) 2 2)]), .int .i64 x2, v18, v19, rfl, HF.out⟩
    | 18, _, h0, hall =>
      obtain rfl : v17 = .int .i64 x2 := F.fs 17 (hall 17 (by decide +kernel))
      obtain rfl : v9 = .bool false := F.fs 9 (hall 9 (by decide +kernel))
      have HF := Lib.hid (show G _ _ _ _ _ [v0, v1, v2, v3, v4, v5, v6, v7, v8, (.bool false), v10, v11, v12, v13, v14, v15, v16, (.int .i64 x2), .bool (x2 != 0), v19] from G.val hok F h0 hall (x := .bool (x2 != 0)) rfl (show 18 < 20 by decide) (Below.refl _ _) rfl)
      clear F hall h0
      refine wpOp_step (by rfl) (fun K' hK => ?_)
      have HKk := Lib.hid hK
      clear hK
      go_simp
      exact HKk.out _ _ ⟨v0, v1, v2, v3, v4, v5, v6, v7, v8, (.bool false), v10, v11, v12, v13, v14, v15, v16, (.int .i64 x2), .bool (x2 != 0), v19, rfl, HF.out⟩
    | 19, _, h0, hall =>
      obtain rfl : v9 = .bool false := F.fs 9 (hall 9 (by decide +kernel))
      obtain rfl : v18 = .bool (x2 != 0) := F.fs 18 (hall 18 (by decide +kernel))
      have HF := Lib.hid (show G _ _ _ _ _ [v0, v1, v2, v3, v4, v5, v6, v7, v8, (.bool false), v10, v11, v12, v13, v14, v15, v16, v17, (.bool (x2 != 0)), .bool (x2 != 0)] from G.val hok F h0 hall (x := .bool (x2 != 0)) rfl (show 19 < 20 by decide) (Below.refl _ _) rfl)
      clear F hall h0
      refine wpOp_step (by rfl) (fun K' hK => ?_)
      have HKk := Lib.hid hK
      clear hK
      go_simp
      exact HKk.out _ _ ⟨v0, v1, v2, v3, v4, v5, v6, v7, v8, (.bool false), v10, v11, v12, v13, v14, v15, v16, v17, (.bool (x2 != 0)), .bool (x2 != 0), rfl, HF.out⟩
    | i + 20, hi, _, _ => exact absurd hi (by show ¬ (i + 20 < 20); omega)
  intro l2 a2 wf hI hall
  obtain ⟨v0, hI⟩ := hI
  obtain ⟨v1, hI⟩ := hI
  obtain ⟨v2, hI⟩ := hI
  obtain ⟨v3, hI⟩ := hI
  obtain ⟨v4, hI⟩ := hI
  obtain ⟨v5, hI⟩ := hI
  obtain ⟨v6, hI⟩ := hI
  obtain ⟨v7, hI⟩ := hI
  obtain ⟨v8, hI⟩ := hI
  obtain ⟨v9, hI⟩ := hI
  obtain ⟨v10, hI⟩ := hI
  obtain ⟨v11, hI⟩ := hI
  obtain ⟨v12, hI⟩ := hI
  obtain ⟨v13, hI⟩ := hI
  obtain ⟨v14, hI⟩ := hI
  obtain ⟨v15, hI⟩ := hI
  obtain ⟨v16, hI⟩ := hI
  obtain ⟨v17, hI⟩ := hI
  obtain ⟨v18, hI⟩ := hI
  obtain ⟨v19, hI⟩ := hI
  obtain ⟨rfl, F⟩ := hI
  obtain rfl : v19 = .bool (x2 != 0) := F.fs 19 (hall 19 (by decide +kernel))
  exact hQ v0 v1 v2 v3 v4 v5 v6 v7 v8 v9 v10 v11 v12 v13 v14 v15 v16 v17 v18 _ (Lib.hid F.bel)
set_option maxHeartbeats 16000000 in
set_option maxRecDepth 1000000 in
theorem reg16 {ea eb ec : Ex} {m1 m2 m3 : Option Addr} {n1 n2 n3 : Nat} {p3 p4 p5 : Nat} {u6 u16 u17 u19 u20 u21 u22 u23 u24 u25 u26 u27 u28 u29 u30 u31 u32 u33 u34 u35 u36 u37 u38 u39 u40 u41 u42 u45 u46 u47 u48 u49 u50 u51 u52 u53 u54 u55 u56 u57 u58 u59 u60 u61 u62 u63 u64 u65 u66 u67 u68 u69 u70 u71 u72 u73 u74 u75 u76 y0 y2 y3 y5 y6 y8 u95 u96 u97 u98 u99 u100 u101 u102 u103 u104 u105 u106 u107 u108 u109 u110 u111 u112 u113 u120 u121 u122 u123 u124 u125 u126 u127 u128 u129 u130 u131 u132 u133 u134 u135 u136 u137 u138 u139 u140 u141 u142 u143 u144 u145 u146 u147 u148 u149 u150 u151 u152 u153 u154 u155 u156 u157 u158 u159 u160 u161 u162 u163 u164 u165 u166 u167 u168 u169 u170 u171 u172 u173 u174 u175 u176 u177 u178 u179 u180 u181 u182 u183 u184 u185 u186 u187 u188 u189 u190 u191 u192 u193 u194 u195 u196 u197 u198 : Value} {ta tb tc : Ex} {ma mb mc : Option Addr} {na nb nc : Nat} {g0 g1 g2 : Nat} {X Y Z : ByteArray} {q0 q1 q2 pI pS k : Nat} {b0 : Bool} {wr : World} (HAp : Hid (∀ (o : Int) (a : Option Addr) (n c : Nat) (w : World), Calls Tryd.prog 13 #[.int .i64 o, .slice a n c] w fun e w' => e = .returned (.agg #[.int .i64 o, .int .i64 0, .string ⟨#[]⟩, .slice a n c]) ∧ Below w.heap.size w w')) (HXta : Hid (Bx wr g0 #[.int .i64 ta.op, .int .i64 ta.n, .string ta.s, .slice ma ta.args.length na] 28)) (HXtb : Hid (Bx wr g1 #[.int .i64 tb.op, .int .i64 tb.n, .string tb.s, .slice mb tb.args.length nb] 28)) (HXtc : Hid (Bx wr g2 #[.int .i64 tc.op, .int .i64 tc.n, .string tc.s, .slice mc tc.args.length nc] 28)) (HKta : Hid (A.Kids wr ma ta.args)) (HKtb : Hid (A.Kids wr mb tb.args)) (HKtc : Hid (A.Kids wr mc tc.args)) (Q : Exit → Act → World → Prop) (hQ : ∀ (z0 z1 z3 z4 z6 : Value) (r2 r5 gL : Nat) (wf : World), Hid (Below wr.heap.size wr wf) → Hid (Bx wf gL #[.int .i64 12, .int .i64 0, .string ⟨#[]⟩, .slice (some ⟨r5, 0, none⟩) 2 2] 28) → Hid (A.Kids wf (some ⟨r5, 0, none⟩) (Ex.args (b2 12 (b2 12 ta tb) tc))) → Q .normal { tmps := #[.agg #[.int .i64 ea.op, .int .i64 ea.n, .string ea.s, .slice m1 ea.args.length n1], .agg #[.int .i64 eb.op, .int .i64 eb.n, .string eb.s, .slice m2 eb.args.length n2], .agg #[.int .i64 ec.op, .int .i64 ec.n, .string ec.s, .slice m3 ec.args.length n3], .pointer (some ⟨p3, 0, none⟩), .pointer (some ⟨p4, 0, none⟩), .pointer (some ⟨p5, 0, none⟩), u6, .pointer (some ⟨g0, 0, none⟩), .pointer (some ⟨g1, 0, none⟩), .pointer (some ⟨g2, 0, none⟩), .string X, .string Y, .string Z, .slice (some ⟨pI, 0, none⟩) 8 8, .slice (some ⟨pS, 0, none⟩) 8 8, .int .i64 ↑k, u16, u17, .pointer (some ⟨gL, 0, none⟩), u19, u20, u21, u22, u23, u24, u25, u26, u27, u28, u29, u30, u31, u32, u33, u34, u35, u36, u37, u38, u39, u40, u41, u42, .bool false, undef, u45, u46, u47, u48, u49, u50, u51, u52, u53, u54, u55, u56, u57, u58, u59, u60, u61, u62, u63, u64, u65, u66, u67, u68, u69, u70, u71, u72, u73, u74, u75, u76, .bool false, y0, .slice (some ⟨q0, 0, none⟩) 1 1, y2, y3, .slice (some ⟨q1, 0, none⟩) 1 1, y5, y6, .slice (some ⟨q2, 0, none⟩) 1 1, y8, .agg #[.int .i64 ta.op, .int .i64 ta.n, .string ta.s, .slice ma ta.args.length na], .string X, .agg #[.int .i64 tb.op, .int .i64 tb.n, .string tb.s, .slice mb tb.args.length nb], .string Y, .agg #[.int .i64 tc.op, .int .i64 tc.n, .string tc.s, .slice mc tc.args.length nc], .string Z, .slice (some ⟨pI, 0, none⟩) 8 8, .slice (some ⟨pS, 0, none⟩) 8 8, u95, u96, u97, u98, u99, u100, u101, u102, u103, u104, u105, u106, u107, u108, u109, u110, u111, u112, u113, .bool false, undef, .int .i64 ↑k, .slice (some ⟨pI, 0, none⟩) 8 8, .int .i64 8, .bool b0, u120, u121, u122, u123, u124, u125, u126, u127, u128, u129, u130, u131, u132, u133, u134, u135, u136, u137, u138, u139, u140, u141, u142, u143, u144, u145, u146, u147, u148, u149, u150, u151, u152, u153, u154, u155, u156, u157, u158, u159, u160, u161, u162, u163, u164, u165, u166, u167, u168, u169, u170, u171, u172, u173, u174, u175, u176, u177, u178, u179, u180, u181, u182, u183, u184, u185, u186, u187, u188, u189, u190, u191, u192, u193, u194, u195, u196, u197, u198, z0, z1, .slice (some ⟨r2, 0, none⟩) 2 2, z3, z4, .slice (some ⟨r5, 0, none⟩) 2 2, z6, undef, undef, undef, undef, undef, undef, undef, undef, undef, undef, undef, undef, undef, undef, undef, undef, undef, undef, undef, undef, undef, undef, undef, undef, undef], defers := [] } wf) :
    Code.wp Tryd.prog (Code.region 16 (opsOf 16) true) Q { tmps := #[.agg #[.int .i64 ea.op, .int .i64 ea.n, .string ea.s, .slice m1 ea.args.length n1], .agg #[.int .i64 eb.op, .int .i64 eb.n, .string eb.s, .slice m2 eb.args.length n2], .agg #[.int .i64 ec.op, .int .i64 ec.n, .string ec.s, .slice m3 ec.args.length n3], .pointer (some ⟨p3, 0, none⟩), .pointer (some ⟨p4, 0, none⟩), .pointer (some ⟨p5, 0, none⟩), u6, .pointer (some ⟨g0, 0, none⟩), .pointer (some ⟨g1, 0, none⟩), .pointer (some ⟨g2, 0, none⟩), .string X, .string Y, .string Z, .slice (some ⟨pI, 0, none⟩) 8 8, .slice (some ⟨pS, 0, none⟩) 8 8, .int .i64 ↑k, u16, u17, undef, u19, u20, u21, u22, u23, u24, u25, u26, u27, u28, u29, u30, u31, u32, u33, u34, u35, u36, u37, u38, u39, u40, u41, u42, .bool false, undef, u45, u46, u47, u48, u49, u50, u51, u52, u53, u54, u55, u56, u57, u58, u59, u60, u61, u62, u63, u64, u65, u66, u67, u68, u69, u70, u71, u72, u73, u74, u75, u76, .bool false, y0, .slice (some ⟨q0, 0, none⟩) 1 1, y2, y3, .slice (some ⟨q1, 0, none⟩) 1 1, y5, y6, .slice (some ⟨q2, 0, none⟩) 1 1, y8, .agg #[.int .i64 ta.op, .int .i64 ta.n, .string ta.s, .slice ma ta.args.length na], .string X, .agg #[.int .i64 tb.op, .int .i64 tb.n, .string tb.s, .slice mb tb.args.length nb], .string Y, .agg #[.int .i64 tc.op, .int .i64 tc.n, .string tc.s, .slice mc tc.args.length nc], .string Z, .slice (some ⟨pI, 0, none⟩) 8 8, .slice (some ⟨pS, 0, none⟩) 8 8, u95, u96, u97, u98, u99, u100, u101, u102, u103, u104, u105, u106, u107, u108, u109, u110, u111, u112, u113, .bool false, undef, .int .i64 ↑k, .slice (some ⟨pI, 0, none⟩) 8 8, .int .i64 8, .bool b0, u120, u121, u122, u123, u124, u125, u126, u127, u128, u129, u130, u131, u132, u133, u134, u135, u136, u137, u138, u139, u140, u141, u142, u143, u144, u145, u146, u147, u148, u149, u150, u151, u152, u153, u154, u155, u156, u157, u158, u159, u160, u161, u162, u163, u164, u165, u166, u167, u168, u169, u170, u171, u172, u173, u174, u175, u176, u177, u178, u179, u180, u181, u182, u183, u184, u185, u186, u187, u188, u189, u190, u191, u192, u193, u194, u195, u196, u197, u198, undef, undef, undef, undef, undef, undef, undef, undef, undef, undef, undef, undef, undef, undef, undef, undef, undef, undef, undef, undef, undef, undef, undef, undef, undef, undef, undef, undef, undef, undef, undef, undef], defers := [] } wr := by
  conv => arg 2; arg 2; whnf
  refine wp_region_G rfl ([.val [] (fun _ => .agg #[.int .i64 ta.op, .int .i64 ta.n, .string ta.s, .slice ma ta.args.length na]), .val [] (fun _ => .agg #[.int .i64 tb.op, .int .i64 tb.n, .string tb.s, .slice mb tb.args.length nb]), .blk 2 [] (fun _ => #[.int .i64 ta.op, .int .i64 ta.n, .string ta.s, .slice ma ta.args.length na, .int .i64 tb.op, .int .i64 tb.n, .string tb.s, .slice mb tb.args.length nb]) 28, .val [2] (fun xs => .agg #[.int .i64 12, .int .i64 0, .string ⟨#[]⟩, xs.getD 0 undef]), .val [] (fun _ => .agg #[.int .i64 tc.op, .int .i64 tc.n, .string tc.s, .slice mc tc.args.length nc]), .blk 2 [2] (fun xs => #[.int .i64 12, .int .i64 0, .string ⟨#[]⟩, xs.getD 0 undef, .int .i64 tc.op, .int .i64 tc.n, .string tc.s, .slice mc tc.args.length nc]) 28, .val [5] (fun xs => .agg #[.int .i64 12, .int .i64 0, .string ⟨#[]⟩, xs.getD 0 undef]), .cell #[.int .i64 0, .int .i64 0, .string ⟨#[]⟩, .slice none 0 0] 28 8 [5] (fun xs => #[.int .i64 12, .int .i64 0, .string ⟨#[]⟩, xs.getD 0 undef]), .non]) (fun ks ops l a w' => ∃ z0 z1 z2 z3 z4 z5 z6 z7 : Value, a = { tmps := #[.agg #[.int .i64 ea.op, .int .i64 ea.n, .string ea.s, .slice m1 ea.args.length n1], .agg #[.int .i64 eb.op, .int .i64 eb.n, .string eb.s, .slice m2 eb.args.length n2], .agg #[.int .i64 ec.op, .int .i64 ec.n, .string ec.s, .slice m3 ec.args.length n3], .pointer (some ⟨p3, 0, none⟩), .pointer (some ⟨p4, 0, none⟩), .pointer (some ⟨p5, 0, none⟩), u6, .pointer (some ⟨g0, 0, none⟩), .pointer (some ⟨g1, 0, none⟩), .pointer (some ⟨g2, 0, none⟩), .string X, .string Y, .string Z, .slice (some ⟨pI, 0, none⟩) 8 8, .slice (some ⟨pS, 0, none⟩) 8 8, .int .i64 ↑k, u16, u17, z7, u19, u20, u21, u22, u23, u24, u25, u26, u27, u28, u29, u30, u31, u32, u33, u34, u35, u36, u37, u38, u39, u40, u41, u42, .bool false, undef, u45, u46, u47, u48, u49, u50, u51, u52, u53, u54, u55, u56, u57, u58, u59, u60, u61, u62, u63, u64, u65, u66, u67, u68, u69, u70, u71, u72, u73, u74, u75, u76, .bool false, y0, .slice (some ⟨q0, 0, none⟩) 1 1, y2, y3, .slice (some ⟨q1, 0, none⟩) 1 1, y5, y6, .slice (some ⟨q2, 0, none⟩) 1 1, y8, .agg #[.int .i64 ta.op, .int .i64 ta.n, .string ta.s, .slice ma ta.args.length na], .string X, .agg #[.int .i64 tb.op, .int .i64 tb.n, .string tb.s, .slice mb tb.args.length nb], .string Y, .agg #[.int .i64 tc.op, .int .i64 tc.n, .string tc.s, .slice mc tc.args.length nc], .string Z, .slice (some ⟨pI, 0, none⟩) 8 8, .slice (some ⟨pS, 0, none⟩) 8 8, u95, u96, u97, u98, u99, u100, u101, u102, u103, u104, u105, u106, u107, u108, u109, u110, u111, u112, u113, .bool false, undef, .int .i64 ↑k, .slice (some ⟨pI, 0, none⟩) 8 8, .int .i64 8, .bool b0, u120, u121, u122, u123, u124, u125, u126, u127, u128, u129, u130, u131, u132, u133, u134, u135, u136, u137, u138, u139, u140, u141, u142, u143, u144, u145, u146, u147, u148, u149, u150, u151, u152, u153, u154, u155, u156, u157, u158, u159, u160, u161, u162, u163, u164, u165, u166, u167, u168, u169, u170, u171, u172, u173, u174, u175, u176, u177, u178, u179, u180, u181, u182, u183, u184, u185, u186, u187, u188, u189, u190, u191, u192, u193, u194, u195, u196, u197, u198, z0, z1, z2, z3, z4, z5, z6, undef, undef, undef, undef, undef, undef, undef, undef, undef, undef, undef, undef, undef, undef, undef, undef, undef, undef, undef, undef, undef, undef, undef, undef, undef], defers := [] } ∧ G ks ops wr l w' [z0, z1, z2, z3, z4, z5, z6, z7]) (by kernel_rfl) (by kernel_rfl) ?_ ?_ ?_
  · intro l hl
    exact ⟨undef, undef, undef, undef, undef, undef, undef, undef, rfl, G.start _ _ hl _⟩
  · intro hok l a w' hI i hi h0 hall
    obtain ⟨z0, hI⟩ := hI
    obtain ⟨z1, hI⟩ := hI
    obtain ⟨z2, hI⟩ := hI
    obtain ⟨z3, hI⟩ := hI
    obtain ⟨z4, hI⟩ := hI
    obtain ⟨z5, hI⟩ := hI
    obtain ⟨z6, hI⟩ := hI
    obtain ⟨z7, hI⟩ := hI
    obtain ⟨rfl, F⟩ := hI
    match i, hi, h0, hall with
    | 0, _, h0, hall =>
      have x := HXta.out.below F.bel
      have x_0 : w'.cell? ⟨g0, 0, none⟩ = some (.int .i64 ta.op) := x.cell 0
      have x_1 : w'.cell? ⟨g0, 1, none⟩ = some (.int .i64 ta.n) := x.cell 1
      have x_2 : w'.cell? ⟨g0, 2, none⟩ = some (.string ta.s) := x.cell 2
      have x_3 : w'.cell? ⟨g0, 3, none⟩ = some (.slice ma ta.args.length na) := x.cell 3
      clear x
      have HF := Lib.hid (show G _ _ _ _ _ [.agg #[.int .i64 ta.op, .int .i64 ta.n, .string ta.s, .slice ma ta.args.length na], z1, z2, z3, z4, z5, z6, z7] from G.val hok F h0 hall (x := .agg #[.int .i64 ta.op, .int .i64 ta.n, .string ta.s, .slice ma ta.args.length na]) rfl (show 0 < 8 by decide) (Below.refl _ _) rfl)
      clear F hall h0
      refine wpOp_step (by rfl) (fun K' hK => ?_)
      have HKk := Lib.hid hK
      clear hK
      go_simp
      exact HKk.out _ _ ⟨.agg #[.int .i64 ta.op, .int .i64 ta.n, .string ta.s, .slice ma ta.args.length na], z1, z2, z3, z4, z5, z6, z7, rfl, HF.out⟩
    | 1, _, h0, hall =>
      have x := HXtb.out.below F.bel
      have x_0 : w'.cell? ⟨g1, 0, none⟩ = some (.int .i64 tb.op) := x.cell 0
      have x_1 : w'.cell? ⟨g1, 1, none⟩ = some (.int .i64 tb.n) := x.cell 1
      have x_2 : w'.cell? ⟨g1, 2, none⟩ = some (.string tb.s) := x.cell 2
      have x_3 : w'.cell? ⟨g1, 3, none⟩ = some (.slice mb tb.args.length nb) := x.cell 3
      clear x
      have HF := Lib.hid (show G _ _ _ _ _ [z0, .agg #[.int .i64 tb.op, .int .i64 tb.n, .string tb.s, .slice mb tb.args.length nb], z2, z3, z4, z5, z6, z7] from G.val hok F h0 hall (x := .agg #[.int .i64 tb.op, .int .i64 tb.n, .string tb.s, .slice mb tb.args.length nb]) rfl (show 1 < 8 by decide) (Below.refl _ _) rfl)
      clear F hall h0
      refine wpOp_step (by rfl) (fun K' hK => ?_)
      have HKk := Lib.hid hK
      clear hK
      go_simp
      exact HKk.out _ _ ⟨z0, .agg #[.int .i64 tb.op, .int .i64 tb.n, .string tb.s, .slice mb tb.args.length nb], z2, z3, z4, z5, z6, z7, rfl, HF.out⟩
    | 2, _, h0, hall =>
      obtain rfl : z0 = .agg #[.int .i64 ta.op, .int .i64 ta.n, .string ta.s, .slice ma ta.args.length na] := F.fs 0 (hall 0 (by decide +kernel))
      obtain rfl : z1 = .agg #[.int .i64 tb.op, .int .i64 tb.n, .string tb.s, .slice mb tb.args.length nb] := F.fs 1 (hall 1 (by decide +kernel))
      have HF := Lib.hid (show G _ _ _ _ _ [(.agg #[.int .i64 ta.op, .int .i64 ta.n, .string ta.s, .slice ma ta.args.length na]), (.agg #[.int .i64 tb.op, .int .i64 tb.n, .string tb.s, .slice mb tb.args.length nb]), .slice (some ⟨w'.heap.size, 0, none⟩) 2 2, z3, z4, z5, z6, z7] from G.blk hok F h0 hall (n := 2) (c := #[.int .i64 ta.op, .int .i64 ta.n, .string ta.s, .slice ma ta.args.length na, .int .i64 tb.op, .int .i64 tb.n, .string tb.s, .slice mb tb.args.length nb]) rfl (show 2 < 8 by decide) rfl)
      clear F hall h0
      refine wpOp_step (by rfl) (fun K' hK => ?_)
      have HKk := Lib.hid hK
      clear hK
      go_simp
      exact HKk.out _ _ ⟨(.agg #[.int .i64 ta.op, .int .i64 ta.n, .string ta.s, .slice ma ta.args.length na]), (.agg #[.int .i64 tb.op, .int .i64 tb.n, .string tb.s, .slice mb tb.args.length nb]), .slice (some ⟨w'.heap.size, 0, none⟩) 2 2, z3, z4, z5, z6, z7, rfl, HF.out⟩
    | 3, _, h0, hall =>
      obtain ⟨g2, e2, x2⟩ : ∃ q, z2 = .slice (some ⟨q, 0, none⟩) 2 2 ∧ Bx w' q #[.int .i64 ta.op, .int .i64 ta.n, .string ta.s, .slice ma ta.args.length na, .int .i64 tb.op, .int .i64 tb.n, .string tb.s, .slice mb tb.args.length nb] 28 := F.fs 2 (hall 2 (by decide +kernel))
      subst e2
      have HF := Lib.hid (fun w2 (hb : Below w'.heap.size w' w2) => show G _ _ _ _ w2 [z0, z1, (.slice (some ⟨g2, 0, none⟩) 2 2), .agg #[.int .i64 12, .int .i64 0, .string ⟨#[]⟩, (.slice (some ⟨g2, 0, none⟩) 2 2)], z4, z5, z6, z7] from G.val hok F h0 hall (x := .agg #[.int .i64 12, .int .i64 0, .string ⟨#[]⟩, (.slice (some ⟨g2, 0, none⟩) 2 2)]) rfl (show 3 < 8 by decide) hb rfl)
      clear F hall h0
      refine wpOp_step (by rfl) (fun K' hK => ?_)
      have HKk := Lib.hid hK
      clear hK
      go_simp
      refine (HAp.out _ _ _ _ _).mono ?_
      rintro er w2 ⟨rfl, hb⟩
      replace HF := Lib.hid (HF.out w2 hb)
      exact HKk.out _ _ ⟨z0, z1, (.slice (some ⟨g2, 0, none⟩) 2 2), .agg #[.int .i64 12, .int .i64 0, .string ⟨#[]⟩, (.slice (some ⟨g2, 0, none⟩) 2 2)], z4, z5, z6, z7, rfl, HF.out⟩
    | 4, _, h0, hall =>
      have x := HXtc.out.below F.bel
      have x_0 : w'.cell? ⟨g2, 0, none⟩ = some (.int .i64 tc.op) := x.cell 0
      have x_1 : w'.cell? ⟨g2, 1, none⟩ = some (.int .i64 tc.n) := x.cell 1
      have x_2 : w'.cell? ⟨g2, 2, none⟩ = some (.string tc.s) := x.cell 2
      have x_3 : w'.cell? ⟨g2, 3, none⟩ = some (.slice mc tc.args.length nc) := x.cell 3
      clear x
      have HF := Lib.hid (show G _ _ _ _ _ [z0, z1, z2, z3, .agg #[.int .i64 tc.op, .int .i64 tc.n, .string tc.s, .slice mc tc.args.length nc], z5, z6, z7] from G.val hok F h0 hall (x := .agg #[.int .i64 tc.op, .int .i64 tc.n, .string tc.s, .slice mc tc.args.length nc]) rfl (show 4 < 8 by decide) (Below.refl _ _) rfl)
      clear F hall h0
      refine wpOp_step (by rfl) (fun K' hK => ?_)
      have HKk := Lib.hid hK
      clear hK
      go_simp
      exact HKk.out _ _ ⟨z0, z1, z2, z3, .agg #[.int .i64 tc.op, .int .i64 tc.n, .string tc.s, .slice mc tc.args.length nc], z5, z6, z7, rfl, HF.out⟩
    | 5, _, h0, hall =>
      obtain ⟨g2, e2, x2⟩ : ∃ q, z2 = .slice (some ⟨q, 0, none⟩) 2 2 ∧ Bx w' q #[.int .i64 ta.op, .int .i64 ta.n, .string ta.s, .slice ma ta.args.length na, .int .i64 tb.op, .int .i64 tb.n, .string tb.s, .slice mb tb.args.length nb] 28 := F.fs 2 (F.cl 3 (hall 3 (by decide +kernel)) 2 (by decide +kernel))
      subst e2
      obtain rfl : z3 = .agg #[.int .i64 12, .int .i64 0, .string ⟨#[]⟩, (.slice (some ⟨g2, 0, none⟩) 2 2)] := F.fs 3 (hall 3 (by decide +kernel))
      obtain rfl : z4 = .agg #[.int .i64 tc.op, .int .i64 tc.n, .string tc.s, .slice mc tc.args.length nc] := F.fs 4 (hall 4 (by decide +kernel))
      have HF := Lib.hid (show G _ _ _ _ _ [z0, z1, (.slice (some ⟨g2, 0, none⟩) 2 2), (.agg #[.int .i64 12, .int .i64 0, .string ⟨#[]⟩, (.slice (some ⟨g2, 0, none⟩) 2 2)]), (.agg #[.int .i64 tc.op, .int .i64 tc.n, .string tc.s, .slice mc tc.args.length nc]), .slice (some ⟨w'.heap.size, 0, none⟩) 2 2, z6, z7] from G.blk hok F h0 hall (n := 2) (c := #[.int .i64 12, .int .i64 0, .string ⟨#[]⟩, (.slice (some ⟨g2, 0, none⟩) 2 2), .int .i64 tc.op, .int .i64 tc.n, .string tc.s, .slice mc tc.args.length nc]) rfl (show 5 < 8 by decide) rfl)
      clear F hall h0
      refine wpOp_step (by rfl) (fun K' hK => ?_)
      have HKk := Lib.hid hK
      clear hK
      go_simp
      exact HKk.out _ _ ⟨z0, z1, (.slice (some ⟨g2, 0, none⟩) 2 2), (.agg #[.int .i64 12, .int .i64 0, .string ⟨#[]⟩, (.slice (some ⟨g2, 0, none⟩) 2 2)]), (.agg #[.int .i64 tc.op, .int .i64 tc.n, .string tc.s, .slice mc tc.args.length nc]), .slice (some ⟨w'.heap.size, 0, none⟩) 2 2, z6, z7, rfl, HF.out⟩
    | 6, _, h0, hall =>
      obtain ⟨g2, e2, x2⟩ : ∃ q, z2 = .slice (some ⟨q, 0, none⟩) 2 2 ∧ Bx w' q #[.int .i64 ta.op, .int .i64 ta.n, .string ta.s, .slice ma ta.args.length na, .int .i64 tb.op, .int .i64 tb.n, .string tb.s, .slice mb tb.args.length nb] 28 := F.fs 2 (F.cl 3 (F.cl 5 (hall 5 (by decide +kernel)) 3 (by decide +kernel)) 2 (by decide +kernel))
      subst e2
      obtain ⟨g5, e5, x5⟩ : ∃ q, z5 = .slice (some ⟨q, 0, none⟩) 2 2 ∧ Bx w' q #[.int .i64 12, .int .i64 0, .string ⟨#[]⟩, (.slice (some ⟨g2, 0, none⟩) 2 2), .int .i64 tc.op, .int .i64 tc.n, .string tc.s, .slice mc tc.args.length nc] 28 := F.fs 5 (hall 5 (by decide +kernel))
      subst e5
      have HF := Lib.hid (fun w2 (hb : Below w'.heap.size w' w2) => show G _ _ _ _ w2 [z0, z1, (.slice (some ⟨g2, 0, none⟩) 2 2), z3, z4, (.slice (some ⟨g5, 0, none⟩) 2 2), .agg #[.int .i64 12, .int .i64 0, .string ⟨#[]⟩, (.slice (some ⟨g5, 0, none⟩) 2 2)], z7] from G.val hok F h0 hall (x := .agg #[.int .i64 12, .int .i64 0, .string ⟨#[]⟩, (.slice (some ⟨g5, 0, none⟩) 2 2)]) rfl (show 6 < 8 by decide) hb rfl)
      clear F hall h0
      refine wpOp_step (by rfl) (fun K' hK => ?_)
      have HKk := Lib.hid hK
      clear hK
      go_simp
      refine (HAp.out _ _ _ _ _).mono ?_
      rintro er w2 ⟨rfl, hb⟩
      replace HF := Lib.hid (HF.out w2 hb)
      exact HKk.out _ _ ⟨z0, z1, (.slice (some ⟨g2, 0, none⟩) 2 2), z3, z4, (.slice (some ⟨g5, 0, none⟩) 2 2), .agg #[.int .i64 12, .int .i64 0, .string ⟨#[]⟩, (.slice (some ⟨g5, 0, none⟩) 2 2)], z7, rfl, HF.out⟩
    | 7, _, h0, hall =>
      have HF := Lib.hid (show G _ _ _ _ _ [z0, z1, z2, z3, z4, z5, z6, .pointer (some ⟨w'.heap.size, 0, none⟩)] from G.cell hok F h0 hall rfl (show 7 < 8 by decide))
      clear F hall h0
      refine wpOp_step (by rfl) (fun K' hK => ?_)
      have HKk := Lib.hid hK
      clear hK
      go_simp
      exact HKk.out _ _ ⟨z0, z1, z2, z3, z4, z5, z6, .pointer (some ⟨w'.heap.size, 0, none⟩), rfl, HF.out⟩
    | 8, _, h0, hall =>
      obtain ⟨g2, e2, x2⟩ : ∃ q, z2 = .slice (some ⟨q, 0, none⟩) 2 2 ∧ Bx w' q #[.int .i64 ta.op, .int .i64 ta.n, .string ta.s, .slice ma ta.args.length na, .int .i64 tb.op, .int .i64 tb.n, .string tb.s, .slice mb tb.args.length nb] 28 := F.fs 2 (F.cl 3 (F.cl 5 (F.cl 6 (hall 6 (by decide +kernel)) 5 (by decide +kernel)) 3 (by decide +kernel)) 2 (by decide +kernel))
      subst e2
      obtain ⟨g5, e5, x5⟩ : ∃ q, z5 = .slice (some ⟨q, 0, none⟩) 2 2 ∧ Bx w' q #[.int .i64 12, .int .i64 0, .string ⟨#[]⟩, (.slice (some ⟨g2, 0, none⟩) 2 2), .int .i64 tc.op, .int .i64 tc.n, .string tc.s, .slice mc tc.args.length nc] 28 := F.fs 5 (F.cl 6 (hall 6 (by decide +kernel)) 5 (by decide +kernel))
      subst e5
      obtain rfl : z6 = .agg #[.int .i64 12, .int .i64 0, .string ⟨#[]⟩, (.slice (some ⟨g5, 0, none⟩) 2 2)] := F.fs 6 (hall 6 (by decide +kernel))
      obtain ⟨g7, e7, hz, hx, _⟩ : ∃ q, z7 = .pointer (some ⟨q, 0, none⟩) ∧ wr.heap.size ≤ q ∧ (¬ On l 8 → Bx w' q #[.int .i64 0, .int .i64 0, .string ⟨#[]⟩, .slice none 0 0] 28) ∧ (On l 8 → Bx w' q #[.int .i64 12, .int .i64 0, .string ⟨#[]⟩, (.slice (some ⟨g5, 0, none⟩) 2 2)] 28) := F.fs 7 (hall 7 (by decide +kernel))
      subst e7
      have hg := hx (off_of h0)
      have x_0 := hg.cell 0
      have x_1 := hg.cell 1
      have x_2 := hg.cell 2
      have x_3 := hg.cell 3
      have y_0 := hg.free 0
      have y_1 := hg.free 1
      have y_2 := hg.free 2
      have y_3 := hg.free 3
      simp at x_0 x_1 x_2 x_3
      have HF := Lib.hid (show G _ _ _ _ (set4 w' g7 (.int .i64 12) (.int .i64 0) (.string ⟨#[]⟩) ((.slice (some ⟨g5, 0, none⟩) 2 2))) [z0, z1, (.slice (some ⟨g2, 0, none⟩) 2 2), z3, z4, (.slice (some ⟨g5, 0, none⟩) 2 2), (.agg #[.int .i64 12, .int .i64 0, .string ⟨#[]⟩, (.slice (some ⟨g5, 0, none⟩) 2 2)]), (.pointer (some ⟨g7, 0, none⟩))] from G.store hok F h0 hall (c := 7) (g := g7) rfl rfl (below_set4 F.bel hz) (fun g' hne => set4_other hne) (bx_set4 hg))
      clear F hall h0
      refine wpOp_step (by rfl) (fun K' hK => ?_)
      have HKk := Lib.hid hK
      clear hK
      go_simp
      exact HKk.out _ _ ⟨z0, z1, (.slice (some ⟨g2, 0, none⟩) 2 2), z3, z4, (.slice (some ⟨g5, 0, none⟩) 2 2), (.agg #[.int .i64 12, .int .i64 0, .string ⟨#[]⟩, (.slice (some ⟨g5, 0, none⟩) 2 2)]), (.pointer (some ⟨g7, 0, none⟩)), rfl, HF.out⟩
    | i + 9, hi, _, _ => exact absurd hi (by show ¬ (i + 9 < 9); omega)
  intro l2 a2 wf hI hall
  obtain ⟨z0, hI⟩ := hI
  obtain ⟨z1, hI⟩ := hI
  obtain ⟨z2, hI⟩ := hI
  obtain ⟨z3, hI⟩ := hI
  obtain ⟨z4, hI⟩ := hI
  obtain ⟨z5, hI⟩ := hI
  obtain ⟨z6, hI⟩ := hI
  obtain ⟨z7, hI⟩ := hI
  obtain ⟨rfl, F⟩ := hI
  obtain ⟨r2, eq2, x2⟩ : ∃ q, z2 = .slice (some ⟨q, 0, none⟩) 2 2 ∧ Bx wf q #[.int .i64 ta.op, .int .i64 ta.n, .string ta.s, .slice ma ta.args.length na, .int .i64 tb.op, .int .i64 tb.n, .string tb.s, .slice mb tb.args.length nb] 28 := F.fs 2 (hall 2 (by decide +kernel))
  subst eq2
  obtain ⟨r5, eq5, x5⟩ : ∃ q, z5 = .slice (some ⟨q, 0, none⟩) 2 2 ∧ Bx wf q #[.int .i64 12, .int .i64 0, .string ⟨#[]⟩, .slice (some ⟨r2, 0, none⟩) 2 2, .int .i64 tc.op, .int .i64 tc.n, .string tc.s, .slice mc tc.args.length nc] 28 := F.fs 5 (hall 5 (by decide +kernel))
  subst eq5
  obtain ⟨gL, egL, _, _, xgL⟩ : ∃ q, z7 = .pointer (some ⟨q, 0, none⟩) ∧ wr.heap.size ≤ q ∧ (¬ On l2 8 → Bx wf q #[.int .i64 0, .int .i64 0, .string ⟨#[]⟩, .slice none 0 0] 28) ∧ (On l2 8 → Bx wf q #[.int .i64 12, .int .i64 0, .string ⟨#[]⟩, .slice (some ⟨r5, 0, none⟩) 2 2] 28) := F.fs 7 (hall 7 (by decide +kernel))
  subst egL
  have xgL2 := xgL (hall 8 (by decide +kernel))
  have HXL : Hid (Bx wf gL #[.int .i64 12, .int .i64 0, .string ⟨#[]⟩, .slice (some ⟨r5, 0, none⟩) 2 2] 28) := Lib.hid xgL2
  have HKL : Hid (A.Kids wf (some ⟨r5, 0, none⟩) (Ex.args (b2 12 (b2 12 ta tb) tc))) := Lib.hid (kids_2 (e := (b2 12 ta tb)) (f := tc) x5 (kids_2 (e := ta) (f := tb) x2 (HKta.out.below F.bel) (HKtb.out.below F.bel)) (HKtc.out.below F.bel))
  exact hQ z0 z1 z3 z4 z6 r2 r5 gL _ (Lib.hid F.bel) HXL HKL
end Go.Proofs.YtbmdadhbkdkgmaaDoor.P
