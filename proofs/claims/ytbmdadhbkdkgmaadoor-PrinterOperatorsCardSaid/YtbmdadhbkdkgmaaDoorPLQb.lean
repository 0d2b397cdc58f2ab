/-
  The laws of layer 9: PrinterOperators: its regions, 13 and 14.
-/
import Derived.Test.YtbmdadhbkdkgmaaDoorPLQ
import Derived.Test.YtbmdadhbkdkgmaaDoorPLN
import Derived.Deep.CutRange
namespace Go.Proofs.YtbmdadhbkdkgmaaDoor.P
open Go.RowKit
open L (Str isName prt size_len below_2 below_box ret_bool ret_int ret_string bytes_eq append_list Own8)
open A
set_option maxHeartbeats 16000000 in
set_option maxRecDepth 1000000 in
theorem reg13 {ea eb ec : Ex} {m1 m2 m3 : Option Addr} {n1 n2 n3 : Nat} {p3 p4 p5 : Nat} {u6 u16 u17 u19 u20 u21 u22 u23 u24 u25 u26 u27 u28 u29 u30 u31 u32 u33 u34 u35 u36 u37 u38 u39 u40 u41 u42 u45 u46 u47 u48 u49 u50 u51 u52 u53 u54 u55 u56 u57 u58 u59 u60 u61 u62 u63 u64 u65 u66 u67 u68 u69 u70 u71 u72 u73 u74 u75 u76 y0 y2 y3 y5 y6 y8 u95 u96 u97 u98 u99 u100 u101 u102 u103 u104 u105 u106 u107 u108 u109 u110 u111 u112 u113 u120 u121 u122 u123 u124 u125 u126 u127 u128 u129 u130 u131 u132 u133 u134 u135 u136 u137 u138 u139 u140 u141 u142 u143 u144 u145 u146 u147 u148 u149 u150 u151 u152 u153 u154 u155 u156 u157 u158 u159 u160 u161 u162 u163 u164 u165 u166 u167 u168 u169 u170 u171 u172 u173 u174 u175 u176 u177 u178 u179 u180 u181 u182 u183 u184 u185 u186 u187 u188 u189 u190 u191 u192 u193 u194 u195 u196 u197 u198 : Value} {ta tb tc : Ex} {ma mb mc : Option Addr} {na nb nc : Nat} {g0 g1 g2 : Nat} {X Y Z : ByteArray} {q0 q1 q2 pI pS k : Nat} {o : Int} {b0 : Bool} {wr : World} (HAp : Hid (∀ (o : Int) (a : Option Addr) (n c : Nat) (w : World), Calls Tryd.prog 13 #[.int .i64 o, .slice a n c] w fun e w' => e = .returned (.agg #[.int .i64 o, .int .i64 0, .string ⟨#[]⟩, .slice a n c]) ∧ Below w.heap.size w w')) (HXta : Hid (Bx wr g0 #[.int .i64 ta.op, .int .i64 ta.n, .string ta.s, .slice ma ta.args.length na] 28)) (HXtb : Hid (Bx wr g1 #[.int .i64 tb.op, .int .i64 tb.n, .string tb.s, .slice mb tb.args.length nb] 28)) (HXtc : Hid (Bx wr g2 #[.int .i64 tc.op, .int .i64 tc.n, .string tc.s, .slice mc tc.args.length nc] 28)) (HKta : Hid (A.Kids wr ma ta.args)) (HKtb : Hid (A.Kids wr mb tb.args)) (HKtc : Hid (A.Kids wr mc tc.args)) (HI : Hid (∀ (w' : World), Below wr.heap.size wr w' → w'.cell? ⟨pI, k, none⟩ = some (.int .i64 o))) (hlt : k < 8) (hltI : (k : Int) < 8) (Q : Exit → Act → World → Prop) (hQ : ∀ (v0 v1 v2 v3 v4 v5 v6 v7 v8 v9 v11 v12 v14 v15 v16 v17 v18 v19 v20 v21 v22 v23 v24 v25 v27 v29 : Value) (q10 q13 q26 q28 gL gR : Nat) (wf : World), Hid (Below wr.heap.size wr wf) → Hid (Bx wf gL #[.int .i64 o, .int .i64 0, .string ⟨#[]⟩, .slice (some ⟨q13, 0, none⟩) 2 2] 28) → Hid (A.Kids wf (some ⟨q13, 0, none⟩) (Ex.args (b2 o (b2 o ta tb) tc))) → Hid (Bx wf gR #[.int .i64 o, .int .i64 0, .string ⟨#[]⟩, .slice (some ⟨q28, 0, none⟩) 2 2] 28) → Hid (A.Kids wf (some ⟨q28, 0, none⟩) (Ex.args (b2 o ta (b2 o tb tc)))) → Q .normal { tmps := #[.agg #[.int .i64 ea.op, .int .i64 ea.n, .string ea.s, .slice m1 ea.args.length n1], .agg #[.int .i64 eb.op, .int .i64 eb.n, .string eb.s, .slice m2 eb.args.length n2], .agg #[.int .i64 ec.op, .int .i64 ec.n, .string ec.s, .slice m3 ec.args.length n3], .pointer (some ⟨p3, 0, none⟩), .pointer (some ⟨p4, 0, none⟩), .pointer (some ⟨p5, 0, none⟩), u6, .pointer (some ⟨g0, 0, none⟩), .pointer (some ⟨g1, 0, none⟩), .pointer (some ⟨g2, 0, none⟩), .string X, .string Y, .string Z, .slice (some ⟨pI, 0, none⟩) 8 8, .slice (some ⟨pS, 0, none⟩) 8 8, .int .i64 ↑k, .pointer (some ⟨gL, 0, none⟩), .pointer (some ⟨gR, 0, none⟩), undef, u19, u20, u21, u22, u23, u24, u25, u26, u27, u28, u29, u30, u31, u32, u33, u34, u35, u36, u37, u38, u39, u40, u41, u42, .bool false, undef, u45, u46, u47, u48, u49, u50, u51, u52, u53, u54, u55, u56, u57, u58, u59, u60, u61, u62, u63, u64, u65, u66, u67, u68, u69, u70, u71, u72, u73, u74, u75, u76, .bool false, y0, .slice (some ⟨q0, 0, none⟩) 1 1, y2, y3, .slice (some ⟨q1, 0, none⟩) 1 1, y5, y6, .slice (some ⟨q2, 0, none⟩) 1 1, y8, .agg #[.int .i64 ta.op, .int .i64 ta.n, .string ta.s, .slice ma ta.args.length na], .string X, .agg #[.int .i64 tb.op, .int .i64 tb.n, .string tb.s, .slice mb tb.args.length nb], .string Y, .agg #[.int .i64 tc.op, .int .i64 tc.n, .string tc.s, .slice mc tc.args.length nc], .string Z, .slice (some ⟨pI, 0, none⟩) 8 8, .slice (some ⟨pS, 0, none⟩) 8 8, u95, u96, u97, u98, u99, u100, u101, u102, u103, u104, u105, u106, u107, u108, u109, u110, u111, u112, u113, .bool false, undef, .int .i64 ↑k, .slice (some ⟨pI, 0, none⟩) 8 8, .int .i64 8, .bool b0, u120, u121, v0, v1, v2, v3, v4, v5, v6, v7, v8, v9, .slice (some ⟨q10, 0, none⟩) 2 2, v11, v12, .slice (some ⟨q13, 0, none⟩) 2 2, v14, v15, v16, v17, v18, v19, v20, v21, v22, v23, v24, v25, .slice (some ⟨q26, 0, none⟩) 2 2, v27, .slice (some ⟨q28, 0, none⟩) 2 2, v29, u152, u153, u154, u155, u156, u157, u158, u159, u160, u161, u162, u163, u164, u165, u166, u167, u168, u169, u170, u171, u172, u173, u174, u175, u176, u177, u178, u179, u180, u181, u182, u183, u184, u185, u186, u187, u188, u189, u190, u191, u192, u193, u194, u195, u196, u197, u198, undef, undef, undef, undef, undef, undef, undef, undef, undef, undef, undef, undef, undef, undef, undef, undef, undef, undef, undef, undef, undef, undef, undef, undef, undef, undef, undef, undef, undef, undef, undef, undef], defers := [] } wf) :
    Code.wp Tryd.prog (Code.region 13 (opsOf 13) true) Q { tmps := #[.agg #[.int .i64 ea.op, .int .i64 ea.n, .string ea.s, .slice m1 ea.args.length n1], .agg #[.int .i64 eb.op, .int .i64 eb.n, .string eb.s, .slice m2 eb.args.length n2], .agg #[.int .i64 ec.op, .int .i64 ec.n, .string ec.s, .slice m3 ec.args.length n3], .pointer (some ⟨p3, 0, none⟩), .pointer (some ⟨p4, 0, none⟩), .pointer (some ⟨p5, 0, none⟩), u6, .pointer (some ⟨g0, 0, none⟩), .pointer (some ⟨g1, 0, none⟩), .pointer (some ⟨g2, 0, none⟩), .string X, .string Y, .string Z, .slice (some ⟨pI, 0, none⟩) 8 8, .slice (some ⟨pS, 0, none⟩) 8 8, .int .i64 ↑k, u16, u17, undef, u19, u20, u21, u22, u23, u24, u25, u26, u27, u28, u29, u30, u31, u32, u33, u34, u35, u36, u37, u38, u39, u40, u41, u42, .bool false, undef, u45, u46, u47, u48, u49, u50, u51, u52, u53, u54, u55, u56, u57, u58, u59, u60, u61, u62, u63, u64, u65, u66, u67, u68, u69, u70, u71, u72, u73, u74, u75, u76, .bool false, y0, .slice (some ⟨q0, 0, none⟩) 1 1, y2, y3, .slice (some ⟨q1, 0, none⟩) 1 1, y5, y6, .slice (some ⟨q2, 0, none⟩) 1 1, y8, .agg #[.int .i64 ta.op, .int .i64 ta.n, .string ta.s, .slice ma ta.args.length na], .string X, .agg #[.int .i64 tb.op, .int .i64 tb.n, .string tb.s, .slice mb tb.args.length nb], .string Y, .agg #[.int .i64 tc.op, .int .i64 tc.n, .string tc.s, .slice mc tc.args.length nc], .string Z, .slice (some ⟨pI, 0, none⟩) 8 8, .slice (some ⟨pS, 0, none⟩) 8 8, u95, u96, u97, u98, u99, u100, u101, u102, u103, u104, u105, u106, u107, u108, u109, u110, u111, u112, u113, .bool false, undef, .int .i64 ↑k, .slice (some ⟨pI, 0, none⟩) 8 8, .int .i64 8, .bool b0, u120, u121, u122, u123, u124, u125, u126, u127, u128, u129, u130, u131, u132, u133, u134, u135, u136, u137, u138, u139, u140, u141, u142, u143, u144, u145, u146, u147, u148, u149, u150, u151, u152, u153, u154, u155, u156, u157, u158, u159, u160, u161, u162, u163, u164, u165, u166, u167, u168, u169, u170, u171, u172, u173, u174, u175, u176, u177, u178, u179, u180, u181, u182, u183, u184, u185, u186, u187, u188, u189, u190, u191, u192, u193, u194, u195, u196, u197, u198, undef, undef, undef, undef, undef, undef, undef, undef, undef, undef, undef, undef, undef, undef, undef, undef, undef, undef, undef, undef, undef, undef, undef, undef, undef, undef, undef, undef, undef, undef, undef, undef], defers := [] } wr := by
  conv => arg 2; arg 2; whnf
  refine wp_region_G rfl ([.val [] (fun _ => .slice (some ⟨pI, 0, none⟩) 8 8), .val [] (fun _ => .int .i64 ↑k), .val [] (fun _ => .pointer (some ⟨pI, k, none⟩)), .val [] (fun _ => .int .i64 o), .val [] (fun _ => .slice (some ⟨pI, 0, none⟩) 8 8), .val [] (fun _ => .int .i64 ↑k), .val [] (fun _ => .pointer (some ⟨pI, k, none⟩)), .val [] (fun _ => .int .i64 o), .val [] (fun _ => .agg #[.int .i64 ta.op, .int .i64 ta.n, .string ta.s, .slice ma ta.args.length na]), .val [] (fun _ => .agg #[.int .i64 tb.op, .int .i64 tb.n, .string tb.s, .slice mb tb.args.length nb]), .blk 2 [] (fun _ => #[.int .i64 ta.op, .int .i64 ta.n, .string ta.s, .slice ma ta.args.length na, .int .i64 tb.op, .int .i64 tb.n, .string tb.s, .slice mb tb.args.length nb]) 28, .val [10] (fun xs => .agg #[.int .i64 o, .int .i64 0, .string ⟨#[]⟩, xs.getD 0 undef]), .val [] (fun _ => .agg #[.int .i64 tc.op, .int .i64 tc.n, .string tc.s, .slice mc tc.args.length nc]), .blk 2 [10] (fun xs => #[.int .i64 o, .int .i64 0, .string ⟨#[]⟩, xs.getD 0 undef, .int .i64 tc.op, .int .i64 tc.n, .string tc.s, .slice mc tc.args.length nc]) 28, .val [13] (fun xs => .agg #[.int .i64 o, .int .i64 0, .string ⟨#[]⟩, xs.getD 0 undef]), .val [] (fun _ => .slice (some ⟨pI, 0, none⟩) 8 8), .val [] (fun _ => .int .i64 ↑k), .val [] (fun _ => .pointer (some ⟨pI, k, none⟩)), .val [] (fun _ => .int .i64 o), .val [] (fun _ => .agg #[.int .i64 ta.op, .int .i64 ta.n, .string ta.s, .slice ma ta.args.length na]), .val [] (fun _ => .slice (some ⟨pI, 0, none⟩) 8 8), .val [] (fun _ => .int .i64 ↑k), .val [] (fun _ => .pointer (some ⟨pI, k, none⟩)), .val [] (fun _ => .int .i64 o), .val [] (fun _ => .agg #[.int .i64 tb.op, .int .i64 tb.n, .string tb.s, .slice mb tb.args.length nb]), .val [] (fun _ => .agg #[.int .i64 tc.op, .int .i64 tc.n, .string tc.s, .slice mc tc.args.length nc]), .blk 2 [] (fun _ => #[.int .i64 tb.op, .int .i64 tb.n, .string tb.s, .slice mb tb.args.length nb, .int .i64 tc.op, .int .i64 tc.n, .string tc.s, .slice mc tc.args.length nc]) 28, .val [26] (fun xs => .agg #[.int .i64 o, .int .i64 0, .string ⟨#[]⟩, xs.getD 0 undef]), .blk 2 [26] (fun xs => #[.int .i64 ta.op, .int .i64 ta.n, .string ta.s, .slice ma ta.args.length na, .int .i64 o, .int .i64 0, .string ⟨#[]⟩, xs.getD 0 undef]) 28, .val [28] (fun xs => .agg #[.int .i64 o, .int .i64 0, .string ⟨#[]⟩, xs.getD 0 undef]), .cell #[.int .i64 0, .int .i64 0, .string ⟨#[]⟩, .slice none 0 0] 28 32 [13] (fun xs => #[.int .i64 o, .int .i64 0, .string ⟨#[]⟩, xs.getD 0 undef]), .cell #[.int .i64 0, .int .i64 0, .string ⟨#[]⟩, .slice none 0 0] 28 33 [28] (fun xs => #[.int .i64 o, .int .i64 0, .string ⟨#[]⟩, xs.getD 0 undef]), .non, .non]) (fun ks ops l a w' => ∃ v0 v1 v2 v3 v4 v5 v6 v7 v8 v9 v10 v11 v12 v13 v14 v15 v16 v17 v18 v19 v20 v21 v22 v23 v24 v25 v26 v27 v28 v29 v30 v31 : Value, a = { tmps := #[.agg #[.int .i64 ea.op, .int .i64 ea.n, .string ea.s, .slice m1 ea.args.length n1], .agg #[.int .i64 eb.op, .int .i64 eb.n, .string eb.s, .slice m2 eb.args.length n2], .agg #[.int .i64 ec.op, .int .i64 ec.n, .string ec.s, .slice m3 ec.args.length n3], .pointer (some ⟨p3, 0, none⟩), .pointer (some ⟨p4, 0, none⟩), .pointer (some ⟨p5, 0, none⟩), u6, .pointer (some ⟨g0, 0, none⟩), .pointer (some ⟨g1, 0, none⟩), .pointer (some ⟨g2, 0, none⟩), .string X, .string Y, .string Z, .slice (some ⟨pI, 0, none⟩) 8 8, .slice (some ⟨pS, 0, none⟩) 8 8, .int .i64 ↑k, v30, v31, undef, u19, u20, u21, u22, u23, u24, u25, u26, u27, u28, u29, u30, u31, u32, u33, u34, u35, u36, u37, u38, u39, u40, u41, u42, .bool false, undef, u45, u46, u47, u48, u49, u50, u51, u52, u53, u54, u55, u56, u57, u58, u59, u60, u61, u62, u63, u64, u65, u66, u67, u68, u69, u70, u71, u72, u73, u74, u75, u76, .bool false, y0, .slice (some ⟨q0, 0, none⟩) 1 1, y2, y3, .slice (some ⟨q1, 0, none⟩) 1 1, y5, y6, .slice (some ⟨q2, 0, none⟩) 1 1, y8, .agg #[.int .i64 ta.op, .int .i64 ta.n, .string ta.s, .slice ma ta.args.length na], .string X, .agg #[.int .i64 tb.op, .int .i64 tb.n, .string tb.s, .slice mb tb.args.length nb], .string Y, .agg #[.int .i64 tc.op, .int .i64 tc.n, .string tc.s, .slice mc tc.args.length nc], .string Z, .slice (some ⟨pI, 0, none⟩) 8 8, .slice (some ⟨pS, 0, none⟩) 8 8, u95, u96, u97, u98, u99, u100, u101, u102, u103, u104, u105, u106, u107, u108, u109, u110, u111, u112, u113, .bool false, undef, .int .i64 ↑k, .slice (some ⟨pI, 0, none⟩) 8 8, .int .i64 8, .bool b0, u120, u121, v0, v1, v2, v3, v4, v5, v6, v7, v8, v9, v10, v11, v12, v13, v14, v15, v16, v17, v18, v19, v20, v21, v22, v23, v24, v25, v26, v27, v28, v29, u152, u153, u154, u155, u156, u157, u158, u159, u160, u161, u162, u163, u164, u165, u166, u167, u168, u169, u170, u171, u172, u173, u174, u175, u176, u177, u178, u179, u180, u181, u182, u183, u184, u185, u186, u187, u188, u189, u190, u191, u192, u193, u194, u195, u196, u197, u198, undef, undef, undef, undef, undef, undef, undef, undef, undef, undef, undef, undef, undef, undef, undef, undef, undef, undef, undef, undef, undef, undef, undef, undef, undef, undef, undef, undef, undef, undef, undef, undef], defers := [] } ∧ G ks ops wr l w' [v0, v1, v2, v3, v4, v5, v6, v7, v8, v9, v10, v11, v12, v13, v14, v15, v16, v17, v18, v19, v20, v21, v22, v23, v24, v25, v26, v27, v28, v29, v30, v31]) (by kernel_rfl) (by kernel_rfl) ?_ ?_ ?_
  · intro l hl
    exact ⟨u122, u123, u124, u125, u126, u127, u128, u129, u130, u131, u132, u133, u134, u135, u136, u137, u138, u139, u140, u141, u142, u143, u144, u145, u146, u147, u148, u149, u150, u151, u16, u17, rfl, G.start _ _ hl _⟩
  · intro hok l a w' hI i hi h0 hall
    obtain ⟨v0, hI⟩ := hI
    obtain ⟨v1, hI⟩ := hI
    obtain ⟨v2, hI⟩ := hI
    obtain ⟨v3, hI⟩ := hI
    obtain ⟨v4, hI⟩ := hI
    obtain ⟨v5, hI⟩ := hI
    obtain ⟨v6, hI⟩ := hI
    obtain ⟨v7, hI⟩ := hI
    obtain ⟨v8, hI⟩ := hI
    obtain ⟨v9, hI⟩ := hI
    obtain ⟨v10, hI⟩ := hI
    obtain ⟨v11, hI⟩ := hI
    obtain ⟨v12, hI⟩ := hI
    obtain ⟨v13, hI⟩ := hI
    obtain ⟨v14, hI⟩ := hI
    obtain ⟨v15, hI⟩ := hI
    obtain ⟨v16, hI⟩ := hI
    obtain ⟨v17, hI⟩ := hI
    obtain ⟨v18, hI⟩ := hI
    obtain ⟨v19, hI⟩ := hI
    obtain ⟨v20, hI⟩ := hI
    obtain ⟨v21, hI⟩ := hI
    obtain ⟨v22, hI⟩ := hI
    obtain ⟨v23, hI⟩ := hI
    obtain ⟨v24, hI⟩ := hI
    obtain ⟨v25, hI⟩ := hI
    obtain ⟨v26, hI⟩ := hI
    obtain ⟨v27, hI⟩ := hI
    obtain ⟨v28, hI⟩ := hI
    obtain ⟨v29, hI⟩ := hI
    obtain ⟨v30, hI⟩ := hI
    obtain ⟨v31, hI⟩ := hI
    obtain ⟨rfl, F⟩ := hI
    match i, hi, h0, hall with
    | 0, _, h0, hall =>
      have HF := Lib.hid (show G _ _ _ _ _ [.slice (some ⟨pI, 0, none⟩) 8 8, v1, v2, v3, v4, v5, v6, v7, v8, v9, v10, v11, v12, v13, v14, v15, v16, v17, v18, v19, v20, v21, v22, v23, v24, v25, v26, v27, v28, v29, v30, v31] from G.val hok F h0 hall (x := .slice (some ⟨pI, 0, none⟩) 8 8) rfl (show 0 < 32 by decide) (Below.refl _ _) rfl)
      clear F hall h0
      refine wpOp_step (by rfl) (fun K' hK => ?_)
      have HKk := Lib.hid hK
      clear hK
      go_simp
      exact HKk.out _ _ ⟨.slice (some ⟨pI, 0, none⟩) 8 8, v1, v2, v3, v4, v5, v6, v7, v8, v9, v10, v11, v12, v13, v14, v15, v16, v17, v18, v19, v20, v21, v22, v23, v24, v25, v26, v27, v28, v29, v30, v31, rfl, HF.out⟩
    | 1, _, h0, hall =>
      have HF := Lib.hid (show G _ _ _ _ _ [v0, .int .i64 ↑k, v2, v3, v4, v5, v6, v7, v8, v9, v10, v11, v12, v13, v14, v15, v16, v17, v18, v19, v20, v21, v22, v23, v24, v25, v26, v27, v28, v29, v30, v31] from G.val hok F h0 hall (x := .int .i64 ↑k) rfl (show 1 < 32 by decide) (Below.refl _ _) rfl)
      clear F hall h0
      refine wpOp_step (by rfl) (fun K' hK => ?_)
      have HKk := Lib.hid hK
      clear hK
      go_simp
      exact HKk.out _ _ ⟨v0, .int .i64 ↑k, v2, v3, v4, v5, v6, v7, v8, v9, v10, v11, v12, v13, v14, v15, v16, v17, v18, v19, v20, v21, v22, v23, v24, v25, v26, v27, v28, v29, v30, v31, rfl, HF.out⟩
    | 2, _, h0, hall =>
      obtain rfl : v0 = .slice (some ⟨pI, 0, none⟩) 8 8 := F.fs 0 (hall 0 (by decide +kernel))
      obtain rfl : v1 = .int .i64 ↑k := F.fs 1 (hall 1 (by decide +kernel))
      have HF := Lib.hid (show G _ _ _ _ _ [(.slice (some ⟨pI, 0, none⟩) 8 8), (.int .i64 ↑k), .pointer (some ⟨pI, k, none⟩), v3, v4, v5, v6, v7, v8, v9, v10, v11, v12, v13, v14, v15, v16, v17, v18, v19, v20, v21, v22, v23, v24, v25, v26, v27, v28, v29, v30, v31] from G.val hok F h0 hall (x := .pointer (some ⟨pI, k, none⟩)) rfl (show 2 < 32 by decide) (Below.refl _ _) rfl)
      clear F hall h0
      refine wpOp_step (by rfl) (fun K' hK => ?_)
      have HKk := Lib.hid hK
      clear hK
      go_simp
      exact HKk.out _ _ ⟨(.slice (some ⟨pI, 0, none⟩) 8 8), (.int .i64 ↑k), .pointer (some ⟨pI, k, none⟩), v3, v4, v5, v6, v7, v8, v9, v10, v11, v12, v13, v14, v15, v16, v17, v18, v19, v20, v21, v22, v23, v24, v25, v26, v27, v28, v29, v30, v31, rfl, HF.out⟩
    | 3, _, h0, hall =>
      obtain rfl : v2 = .pointer (some ⟨pI, k, none⟩) := F.fs 2 (hall 2 (by decide +kernel))
      have x_0 := HI.out _ F.bel
      have HF := Lib.hid (show G _ _ _ _ _ [v0, v1, (.pointer (some ⟨pI, k, none⟩)), .int .i64 o, v4, v5, v6, v7, v8, v9, v10, v11, v12, v13, v14, v15, v16, v17, v18, v19, v20, v21, v22, v23, v24, v25, v26, v27, v28, v29, v30, v31] from G.val hok F h0 hall (x := .int .i64 o) rfl (show 3 < 32 by decide) (Below.refl _ _) rfl)
      clear F hall h0
      refine wpOp_step (by rfl) (fun K' hK => ?_)
      have HKk := Lib.hid hK
      clear hK
      go_simp
      exact HKk.out _ _ ⟨v0, v1, (.pointer (some ⟨pI, k, none⟩)), .int .i64 o, v4, v5, v6, v7, v8, v9, v10, v11, v12, v13, v14, v15, v16, v17, v18, v19, v20, v21, v22, v23, v24, v25, v26, v27, v28, v29, v30, v31, rfl, HF.out⟩
    | 4, _, h0, hall =>
      have HF := Lib.hid (show G _ _ _ _ _ [v0, v1, v2, v3, .slice (some ⟨pI, 0, none⟩) 8 8, v5, v6, v7, v8, v9, v10, v11, v12, v13, v14, v15, v16, v17, v18, v19, v20, v21, v22, v23, v24, v25, v26, v27, v28, v29, v30, v31] from G.val hok F h0 hall (x := .slice (some ⟨pI, 0, none⟩) 8 8) rfl (show 4 < 32 by decide) (Below.refl _ _) rfl)
      clear F hall h0
      refine wpOp_step (by rfl) (fun K' hK => ?_)
      have HKk := Lib.hid hK
      clear hK
      go_simp
      exact HKk.out _ _ ⟨v0, v1, v2, v3, .slice (some ⟨pI, 0, none⟩) 8 8, v5, v6, v7, v8, v9, v10, v11, v12, v13, v14, v15, v16, v17, v18, v19, v20, v21, v22, v23, v24, v25, v26, v27, v28, v29, v30, v31, rfl, HF.out⟩
    | 5, _, h0, hall =>
      have HF := Lib.hid (show G _ _ _ _ _ [v0, v1, v2, v3, v4, .int .i64 ↑k, v6, v7, v8, v9, v10, v11, v12, v13, v14, v15, v16, v17, v18, v19, v20, v21, v22, v23, v24, v25, v26, v27, v28, v29, v30, v31] from G.val hok F h0 hall (x := .int .i64 ↑k) rfl (show 5 < 32 by decide) (Below.refl _ _) rfl)
      clear F hall h0
      refine wpOp_step (by rfl) (fun K' hK => ?_)
      have HKk := Lib.hid hK
      clear hK
      go_simp
      exact HKk.out _ _ ⟨v0, v1, v2, v3, v4, .int .i64 ↑k, v6, v7, v8, v9, v10, v11, v12, v13, v14, v15, v16, v17, v18, v19, v20, v21, v22, v23, v24, v25, v26, v27, v28, v29, v30, v31, rfl, HF.out⟩
    | 6, _, h0, hall =>
      obtain rfl : v4 = .slice (some ⟨pI, 0, none⟩) 8 8 := F.fs 4 (hall 4 (by decide +kernel))
      obtain rfl : v5 = .int .i64 ↑k := F.fs 5 (hall 5 (by decide +kernel))
      have HF := Lib.hid (show G _ _ _ _ _ [v0, v1, v2, v3, (.slice (some ⟨pI, 0, none⟩) 8 8), (.int .i64 ↑k), .pointer (some ⟨pI, k, none⟩), v7, v8, v9, v10, v11, v12, v13, v14, v15, v16, v17, v18, v19, v20, v21, v22, v23, v24, v25, v26, v27, v28, v29, v30, v31] from G.val hok F h0 hall (x := .pointer (some ⟨pI, k, none⟩)) rfl (show 6 < 32 by decide) (Below.refl _ _) rfl)
      clear F hall h0
      refine wpOp_step (by rfl) (fun K' hK => ?_)
      have HKk := Lib.hid hK
      clear hK
      go_simp
      exact HKk.out _ _ ⟨v0, v1, v2, v3, (.slice (some ⟨pI, 0, none⟩) 8 8), (.int .i64 ↑k), .pointer (some ⟨pI, k, none⟩), v7, v8, v9, v10, v11, v12, v13, v14, v15, v16, v17, v18, v19, v20, v21, v22, v23, v24, v25, v26, v27, v28, v29, v30, v31, rfl, HF.out⟩
    | 7, _, h0, hall =>
      obtain rfl : v6 = .pointer (some ⟨pI, k, none⟩) := F.fs 6 (hall 6 (by decide +kernel))
      have x_0 := HI.out _ F.bel
      have HF := Lib.hid (show G _ _ _ _ _ [v0, v1, v2, v3, v4, v5, (.pointer (some ⟨pI, k, none⟩)), .int .i64 o, v8, v9, v10, v11, v12, v13, v14, v15, v16, v17, v18, v19, v20, v21, v22, v23, v24, v25, v26, v27, v28, v29, v30, v31] from G.val hok F h0 hall (x := .int .i64 o) rfl (show 7 < 32 by decide) (Below.refl _ _) rfl)
      clear F hall h0
      refine wpOp_step (by rfl) (fun K' hK => ?_)
      have HKk := Lib.hid hK
      clear hK
      go_simp
      exact HKk.out _ _ ⟨v0, v1, v2, v3, v4, v5, (.pointer (some ⟨pI, k, none⟩)), .int .i64 o, v8, v9, v10, v11, v12, v13, v14, v15, v16, v17, v18, v19, v20, v21, v22, v23, v24, v25, v26, v27, v28, v29, v30, v31, rfl, HF.out⟩
    | 8, _, h0, hall =>
      have x := HXta.out.below F.bel
      have x_0 : w'.cell? ⟨g0, 0, none⟩ = some (.int .i64 ta.op) := x.cell 0
      have x_1 : w'.cell? ⟨g0, 1, none⟩ = some (.int .i64 ta.n) := x.cell 1
      have x_2 : w'.cell? ⟨g0, 2, none⟩ = some (.string ta.s) := x.cell 2
      have x_3 : w'.cell? ⟨g0, 3, none⟩ = some (.slice ma ta.args.length na) := x.cell 3
      clear x
      have HF := Lib.hid (show G _ _ _ _ _ [v0, v1, v2, v3, v4, v5, v6, v7, .agg #[.int .i64 ta.op, .int .i64 ta.n, .string ta.s, .slice ma ta.args.length na], v9, v10, v11, v12, v13, v14, v15, v16, v17, v18, v19, v20, v21, v22, v23, v24, v25, v26, v27, v28, v29, v30, v31] from G.val hok F h0 hall (x := .agg #[.int .i64 ta.op, .int .i64 ta.n, .string ta.s, .slice ma ta.args.length na]) rfl (show 8 < 32 by decide) (Below.refl _ _) rfl)
      clear F hall h0
      refine wpOp_step (by rfl) (fun K' hK => ?_)
      have HKk := Lib.hid hK
      clear hK
      go_simp
      exact HKk.out _ _ ⟨v0, v1, v2, v3, v4, v5, v6, v7, .agg #[.int .i64 ta.op, .int .i64 ta.n, .string ta.s, .slice ma ta.args.length na], v9, v10, v11, v12, v13, v14, v15, v16, v17, v18, v19, v20, v21, v22, v23, v24, v25, v26, v27, v28, v29, v30, v31, rfl, HF.out⟩
    | 9, _, h0, hall =>
      have x := HXtb.out.below F.bel
      have x_0 : w'.cell? ⟨g1, 0, none⟩ = some (.int .i64 tb.op) := x.cell 0
      have x_1 : w'.cell? ⟨g1, 1, none⟩ = some (.int .i64 tb.n) := x.cell 1
      have x_2 : w'.cell? ⟨g1, 2, none⟩ = some (.string tb.s) := x.cell 2
      have x_3 : w'.cell? ⟨g1, 3, none⟩ = some (.slice mb tb.args.length nb) := x.cell 3
      clear x
      have HF := Lib.hid (show G _ _ _ _ _ [v0, v1, v2, v3, v4, v5, v6, v7, v8, .agg #[.int .i64 tb.op, .int .i64 tb.n, .string tb.s, .slice mb tb.args.length nb], v10, v11, v12, v13, v14, v15, v16, v17, v18, v19, v20, v21, v22, v23, v24, v25, v26, v27, v28, v29, v30, v31] from G.val hok F h0 hall (x := .agg #[.int .i64 tb.op, .int .i64 tb.n, .string tb.s, .slice mb tb.args.length nb]) rfl (show 9 < 32 by decide) (Below.refl _ _) rfl)
      clear F hall h0
      refine wpOp_step (by rfl) (fun K' hK => ?_)
      have HKk := Lib.hid hK
      clear hK
      go_simp
      exact HKk.out _ _ ⟨v0, v1, v2, v3, v4, v5, v6, v7, v8, .agg #[.int .i64 tb.op, .int .i64 tb.n, .string tb.s, .slice mb tb.args.length nb], v10, v11, v12, v13, v14, v15, v16, v17, v18, v19, v20, v21, v22, v23, v24, v25, v26, v27, v28, v29, v30, v31, rfl, HF.out⟩
    | 10, _, h0, hall =>
      obtain rfl : v8 = .agg #[.int .i64 ta.op, .int .i64 ta.n, .string ta.s, .slice ma ta.args.length na] := F.fs 8 (hall 8 (by decide +kernel))
      obtain rfl : v9 = .agg #[.int .i64 tb.op, .int .i64 tb.n, .string tb.s, .slice mb tb.args.length nb] := F.fs 9 (hall 9 (by decide +kernel))
      have HF := Lib.hid (show G _ _ _ _ _ [v0, v1, v2, v3, v4, v5, v6, v7, (.agg #[.int .i64 ta.op, .int .i64 ta.n, .string ta.s, .slice ma ta.args.length na]), (.agg #[.int .i64 tb.op, .int .i64 tb.n, .string tb.s, .slice mb tb.args.length nb]), .slice (some ⟨w'.heap.size, 0, none⟩) 2 2, v11, v12, v13, v14, v15, v16, v17, v18, v19, v20, v21, v22, v23, v24, v25, v26, v27, v28, v29, v30, v31] from G.blk hok F h0 hall (n := 2) (c := #[.int .i64 ta.op, .int .i64 ta.n, .string ta.s, .slice ma ta.args.length na, .int .i64 tb.op, .int .i64 tb.n, .string tb.s, .slice mb tb.args.length nb]) rfl (show 10 < 32 by decide) rfl)
      clear F hall h0
      refine wpOp_step (by rfl) (fun K' hK => ?_)
      have HKk := Lib.hid hK
      clear hK
      go_simp
      exact HKk.out _ _ ⟨v0, v1, v2, v3, v4, v5, v6, v7, (.agg #[.int .i64 ta.op, .int .i64 ta.n, .string ta.s, .slice ma ta.args.length na]), (.agg #[.int .i64 tb.op, .int .i64 tb.n, .string tb.s, .slice mb tb.args.length nb]), .slice (some ⟨w'.heap.size, 0, none⟩) 2 2, v11, v12, v13, v14, v15, v16, v17, v18, v19, v20, v21, v22, v23, v24, v25, v26, v27, v28, v29, v30, v31, rfl, HF.out⟩
    | 11, _, h0, hall =>
      obtain rfl : v7 = .int .i64 o := F.fs 7 (hall 7 (by decide +kernel))
      obtain ⟨g10, e10, x10⟩ : ∃ q, v10 = .slice (some ⟨q, 0, none⟩) 2 2 ∧ Bx w' q #[.int .i64 ta.op, .int .i64 ta.n, .string ta.s, .slice ma ta.args.length na, .int .i64 tb.op, .int .i64 tb.n, .string tb.s, .slice mb tb.args.length nb] 28 := F.fs 10 (hall 10 (by decide +kernel))
      subst e10
      have HF := Lib.hid (fun w2 (hb : Below w'.heap.size w' w2) => show G _ _ _ _ w2 [v0, v1, v2, v3, v4, v5, v6, (.int .i64 o), v8, v9, (.slice (some ⟨g10, 0, none⟩) 2 2), .agg #[.int .i64 o, .int .i64 0, .string ⟨#[]⟩, (.slice (some ⟨g10, 0, none⟩) 2 2)], v12, v13, v14, v15, v16, v17, v18, v19, v20, v21, v22, v23, v24, v25, v26, v27, v28, v29, v30, v31] from G.val hok F h0 hall (x := .agg #[.int .i64 o, .int .i64 0, .string ⟨#[]⟩, (.slice (some ⟨g10, 0, none⟩) 2 2)]) rfl (show 11 < 32 by decide) hb rfl)
      clear F hall h0
      refine wpOp_step (by rfl) (fun K' hK => ?_)
      have HKk := Lib.hid hK
      clear hK
      go_simp
      refine (HAp.out _ _ _ _ _).mono ?_
      rintro er w2 ⟨rfl, hb⟩
      replace HF := Lib.hid (HF.out w2 hb)
      exact HKk.out _ _ ⟨v0, v1, v2, v3, v4, v5, v6, (.int .i64 o), v8, v9, (.slice (some ⟨g10, 0, none⟩) 2 2), .agg #[.int .i64 o, .int .i64 0, .string ⟨#[]⟩, (.slice (some ⟨g10, 0, none⟩) 2 2)], v12, v13, v14, v15, v16, v17, v18, v19, v20, v21, v22, v23, v24, v25, v26, v27, v28, v29, v30, v31, rfl, HF.out⟩
    | 12, _, h0, hall =>
      have x := HXtc.out.below F.bel
      have x_0 : w'.cell? ⟨g2, 0, none⟩ = some (.int .i64 tc.op) := x.cell 0
      have x_1 : w'.cell? ⟨g2, 1, none⟩ = some (.int .i64 tc.n) := x.cell 1
      have x_2 : w'.cell? ⟨g2, 2, none⟩ = some (.string tc.s) := x.cell 2
      have x_3 : w'.cell? ⟨g2, 3, none⟩ = some (.slice mc tc.args.length nc) := x.cell 3
      clear x
      have HF := Lib.hid (show G _ _ _ _ _ [v0, v1, v2, v3, v4, v5, v6, v7, v8, v9, v10, v11, .agg #[.int .i64 tc.op, .int .i64 tc.n, .string tc.s, .slice mc tc.args.length nc], v13, v14, v15, v16, v17, v18, v19, v20, v21, v22, v23, v24, v25, v26, v27, v28, v29, v30, v31] from G.val hok F h0 hall (x := .agg #[.int .i64 tc.op, .int .i64 tc.n, .string tc.s, .slice mc tc.args.length nc]) rfl (show 12 < 32 by decide) (Below.refl _ _) rfl)
      clear F hall h0
      refine wpOp_step (by rfl) (fun K' hK => ?_)
      have HKk := Lib.hid hK
      clear hK
      go_simp
      exact HKk.out _ _ ⟨v0, v1, v2, v3, v4, v5, v6, v7, v8, v9, v10, v11, .agg #[.int .i64 tc.op, .int .i64 tc.n, .string tc.s, .slice mc tc.args.length nc], v13, v14, v15, v16, v17, v18, v19, v20, v21, v22, v23, v24, v25, v26, v27, v28, v29, v30, v31, rfl, HF.out⟩
    | 13, _, h0, hall =>
      obtain ⟨g10, e10, x10⟩ : ∃ q, v10 = .slice (some ⟨q, 0, none⟩) 2 2 ∧ Bx w' q #[.int .i64 ta.op, .int .i64 ta.n, .string ta.s, .slice ma ta.args.length na, .int .i64 tb.op, .int .i64 tb.n, .string tb.s, .slice mb tb.args.length nb] 28 := F.fs 10 (F.cl 11 (hall 11 (by decide +kernel)) 10 (by decide +kernel))
      subst e10
      obtain rfl : v11 = .agg #[.int .i64 o, .int .i64 0, .string ⟨#[]⟩, (.slice (some ⟨g10, 0, none⟩) 2 2)] := F.fs 11 (hall 11 (by decide +kernel))
      obtain rfl : v12 = .agg #[.int .i64 tc.op, .int .i64 tc.n, .string tc.s, .slice mc tc.args.length nc] := F.fs 12 (hall 12 (by decide +kernel))
      have HF := Lib.hid (show G _ _ _ _ _ [v0, v1, v2, v3, v4, v5, v6, v7, v8, v9, (.slice (some ⟨g10, 0, none⟩) 2 2), (.agg #[.int .i64 o, .int .i64 0, .string ⟨#[]⟩, (.slice (some ⟨g10, 0, none⟩) 2 2)]), (.agg #[.int .i64 tc.op, .int .i64 tc.n, .string tc.s, .slice mc tc.args.length nc]), .slice (some ⟨w'.heap.size, 0, none⟩) 2 2, v14, v15, v16, v17, v18, v19, v20, v21, v22, v23, v24, v25, v26, v27, v28, v29, v30, v31] from G.blk hok F h0 hall (n := 2) (c := #[.int .i64 o, .int .i64 0, .string ⟨#[]⟩, (.slice (some ⟨g10, 0, none⟩) 2 2), .int .i64 tc.op, .int .i64 tc.n, .string tc.s, .slice mc tc.args.length nc]) rfl (show 13 < 32 by decide) rfl)
      clear F hall h0
      refine wpOp_step (by rfl) (fun K' hK => ?_)
      have HKk := Lib.hid hK
      clear hK
      go_simp
      exact HKk.out _ _ ⟨v0, v1, v2, v3, v4, v5, v6, v7, v8, v9, (.slice (some ⟨g10, 0, none⟩) 2 2), (.agg #[.int .i64 o, .int .i64 0, .string ⟨#[]⟩, (.slice (some ⟨g10, 0, none⟩) 2 2)]), (.agg #[.int .i64 tc.op, .int .i64 tc.n, .string tc.s, .slice mc tc.args.length nc]), .slice (some ⟨w'.heap.size, 0, none⟩) 2 2, v14, v15, v16, v17, v18, v19, v20, v21, v22, v23, v24, v25, v26, v27, v28, v29, v30, v31, rfl, HF.out⟩
    | 14, _, h0, hall =>
      obtain rfl : v3 = .int .i64 o := F.fs 3 (hall 3 (by decide +kernel))
      obtain ⟨g10, e10, x10⟩ : ∃ q, v10 = .slice (some ⟨q, 0, none⟩) 2 2 ∧ Bx w' q #[.int .i64 ta.op, .int .i64 ta.n, .string ta.s, .slice ma ta.args.length na, .int .i64 tb.op, .int .i64 tb.n, .string tb.s, .slice mb tb.args.length nb] 28 := F.fs 10 (F.cl 11 (F.cl 13 (hall 13 (by decide +kernel)) 11 (by decide +kernel)) 10 (by decide +kernel))
      subst e10
      obtain ⟨g13, e13, x13⟩ : ∃ q, v13 = .slice (some ⟨q, 0, none⟩) 2 2 ∧ Bx w' q #[.int .i64 o, .int .i64 0, .string ⟨#[]⟩, (.slice (some ⟨g10, 0, none⟩) 2 2), .int .i64 tc.op, .int .i64 tc.n, .string tc.s, .slice mc tc.args.length nc] 28 := F.fs 13 (hall 13 (by decide +kernel))
      subst e13
      have HF := Lib.hid (fun w2 (hb : Below w'.heap.size w' w2) => show G _ _ _ _ w2 [v0, v1, v2, (.int .i64 o), v4, v5, v6, v7, v8, v9, (.slice (some ⟨g10, 0, none⟩) 2 2), v11, v12, (.slice (some ⟨g13, 0, none⟩) 2 2), .agg #[.int .i64 o, .int .i64 0, .string ⟨#[]⟩, (.slice (some ⟨g13, 0, none⟩) 2 2)], v15, v16, v17, v18, v19, v20, v21, v22, v23, v24, v25, v26, v27, v28, v29, v30, v31] from G.val hok F h0 hall (x := .agg #[.int .i64 o, .int .i64 0, .string ⟨#[]⟩, (.slice (some ⟨g13, 0, none⟩) 2 2)]) rfl (show 14 < 32 by decide) hb rfl)
      clear F hall h0
      refine wpOp_step (by rfl) (fun K' hK => ?_)
      have HKk := Lib.hid hK
      clear hK
      go_simp
      refine (HAp.out _ _ _ _ _).mono ?_
      rintro er w2 ⟨rfl, hb⟩
      replace HF := Lib.hid (HF.out w2 hb)
      exact HKk.out _ _ ⟨v0, v1, v2, (.int .i64 o), v4, v5, v6, v7, v8, v9, (.slice (some ⟨g10, 0, none⟩) 2 2), v11, v12, (.slice (some ⟨g13, 0, none⟩) 2 2), .agg #[.int .i64 o, .int .i64 0, .string ⟨#[]⟩, (.slice (some ⟨g13, 0, none⟩) 2 2)], v15, v16, v17, v18, v19, v20, v21, v22, v23, v24, v25, v26, v27, v28, v29, v30, v31, rfl, HF.out⟩
    | 15, _, h0, hall =>
      have HF := Lib.hid (show G _ _ _ _ _ [v0, v1, v2, v3, v4, v5, v6, v7, v8, v9, v10, v11, v12, v13, v14, .slice (some ⟨pI, 0, none⟩) 8 8, v16, v17, v18, v19, v20, v21, v22, v23, v24, v25, v26, v27, v28, v29, v30, v31] from G.val hok F h0 hall (x := .slice (some ⟨pI, 0, none⟩) 8 8) rfl (show 15 < 32 by decide) (Below.refl _ _) rfl)
      clear F hall h0
      refine wpOp_step (by rfl) (fun K' hK => ?_)
      have HKk := Lib.hid hK
      clear hK
      go_simp
      exact HKk.out _ _ ⟨v0, v1, v2, v3, v4, v5, v6, v7, v8, v9, v10, v11, v12, v13, v14, .slice (some ⟨pI, 0, none⟩) 8 8, v16, v17, v18, v19, v20, v21, v22, v23, v24, v25, v26, v27, v28, v29, v30, v31, rfl, HF.out⟩
    | 16, _, h0, hall =>
      have HF := Lib.hid (show G _ _ _ _ _ [v0, v1, v2, v3, v4, v5, v6, v7, v8, v9, v10, v11, v12, v13, v14, v15, .int .i64 ↑k, v17, v18, v19, v20, v21, v22, v23, v24, v25, v26, v27, v28, v29, v30, v31] from G.val hok F h0 hall (x := .int .i64 ↑k) rfl (show 16 < 32 by decide) (Below.refl _ _) rfl)
      clear F hall h0
      refine wpOp_step (by rfl) (fun K' hK => ?_)
      have HKk := Lib.hid hK
      clear hK
      go_simp
      exact HKk.out _ _ ⟨v0, v1, v2, v3, v4, v5, v6, v7, v8, v9, v10, v11, v12, v13, v14, v15, .int .i64 ↑k, v17, v18, v19, v20, v21, v22, v23, v24, v25, v26, v27, v28, v29, v30, v31, rfl, HF.out⟩
    | 17, _, h0, hall =>
      obtain rfl : v15 = .slice (some ⟨pI, 0, none⟩) 8 8 := F.fs 15 (hall 15 (by decide +kernel))
      obtain rfl : v16 = .int .i64 ↑k := F.fs 16 (hall 16 (by decide +kernel))
      have HF := Lib.hid (show G _ _ _ _ _ [v0, v1, v2, v3, v4, v5, v6, v7, v8, v9, v10, v11, v12, v13, v14, (.slice (some ⟨pI, 0, none⟩) 8 8), (.int .i64 ↑k), .pointer (some ⟨pI, k, none⟩), v18, v19, v20, v21, v22, v23, v24, v25, v26, v27, v28, v29, v30, v31] from G.val hok F h0 hall (x := .pointer (some ⟨pI, k, none⟩)) rfl (show 17 < 32 by decide) (Below.refl _ _) rfl)
      clear F hall h0
      refine wpOp_step (by rfl) (fun K' hK => ?_)
      have HKk := Lib.hid hK
      clear hK
      go_simp
      exact HKk.out _ _ ⟨v0, v1, v2, v3, v4, v5, v6, v7, v8, v9, v10, v11, v12, v13, v14, (.slice (some ⟨pI, 0, none⟩) 8 8), (.int .i64 ↑k), .pointer (some ⟨pI, k, none⟩), v18, v19, v20, v21, v22, v23, v24, v25, v26, v27, v28, v29, v30, v31, rfl, HF.out⟩
    | 18, _, h0, hall =>
      obtain rfl : v17 = .pointer (some ⟨pI, k, none⟩) := F.fs 17 (hall 17 (by decide +kernel))
      have x_0 := HI.out _ F.bel
      have HF := Lib.hid (show G _ _ _ _ _ [v0, v1, v2, v3, v4, v5, v6, v7, v8, v9, v10, v11, v12, v13, v14, v15, v16, (.pointer (some ⟨pI, k, none⟩)), .int .i64 o, v19, v20, v21, v22, v23, v24, v25, v26, v27, v28, v29, v30, v31] from G.val hok F h0 hall (x := .int .i64 o) rfl (show 18 < 32 by decide) (Below.refl _ _) rfl)
      clear F hall h0
      refine wpOp_step (by rfl) (fun K' hK => ?_)
      have HKk := Lib.hid hK
      clear hK
      go_simp
      exact HKk.out _ _ ⟨v0, v1, v2, v3, v4, v5, v6, v7, v8, v9, v10, v11, v12, v13, v14, v15, v16, (.pointer (some ⟨pI, k, none⟩)), .int .i64 o, v19, v20, v21, v22, v23, v24, v25, v26, v27, v28, v29, v30, v31, rfl, HF.out⟩
    | 19, _, h0, hall =>
      have x := HXta.out.below F.bel
      have x_0 : w'.cell? ⟨g0, 0, none⟩ = some (.int .i64 ta.op) := x.cell 0
      have x_1 : w'.cell? ⟨g0, 1, none⟩ = some (.int .i64 ta.n) := x.cell 1
      have x_2 : w'.cell? ⟨g0, 2, none⟩ = some (.string ta.s) := x.cell 2
      have x_3 : w'.cell? ⟨g0, 3, none⟩ = some (.slice ma ta.args.length na) := x.cell 3
      clear x
      have HF := Lib.hid (show G _ _ _ _ _ [v0, v1, v2, v3, v4, v5, v6, v7, v8, v9, v10, v11, v12, v13, v14, v15, v16, v17, v18, .agg #[.int .i64 ta.op, .int .i64 ta.n, .string ta.s, .slice ma ta.args.length na], v20, v21, v22, v23, v24, v25, v26, v27, v28, v29, v30, v31] from G.val hok F h0 hall (x := .agg #[.int .i64 ta.op, .int .i64 ta.n, .string ta.s, .slice ma ta.args.length na]) rfl (show 19 < 32 by decide) (Below.refl _ _) rfl)
      clear F hall h0
      refine wpOp_step (by rfl) (fun K' hK => ?_)
      have HKk := Lib.hid hK
      clear hK
      go_simp
      exact HKk.out _ _ ⟨v0, v1, v2, v3, v4, v5, v6, v7, v8, v9, v10, v11, v12, v13, v14, v15, v16, v17, v18, .agg #[.int .i64 ta.op, .int .i64 ta.n, .string ta.s, .slice ma ta.args.length na], v20, v21, v22, v23, v24, v25, v26, v27, v28, v29, v30, v31, rfl, HF.out⟩
    | 20, _, h0, hall =>
      have HF := Lib.hid (show G _ _ _ _ _ [v0, v1, v2, v3, v4, v5, v6, v7, v8, v9, v10, v11, v12, v13, v14, v15, v16, v17, v18, v19, .slice (some ⟨pI, 0, none⟩) 8 8, v21, v22, v23, v24, v25, v26, v27, v28, v29, v30, v31] from G.val hok F h0 hall (x := .slice (some ⟨pI, 0, none⟩) 8 8) rfl (show 20 < 32 by decide) (Below.refl _ _) rfl)
      clear F hall h0
      refine wpOp_step (by rfl) (fun K' hK => ?_)
      have HKk := Lib.hid hK
      clear hK
      go_simp
      exact HKk.out _ _ ⟨v0, v1, v2, v3, v4, v5, v6, v7, v8, v9, v10, v11, v12, v13, v14, v15, v16, v17, v18, v19, .slice (some ⟨pI, 0, none⟩) 8 8, v21, v22, v23, v24, v25, v26, v27, v28, v29, v30, v31, rfl, HF.out⟩
    | 21, _, h0, hall =>
      have HF := Lib.hid (show G _ _ _ _ _ [v0, v1, v2, v3, v4, v5, v6, v7, v8, v9, v10, v11, v12, v13, v14, v15, v16, v17, v18, v19, v20, .int .i64 ↑k, v22, v23, v24, v25, v26, v27, v28, v29, v30, v31] from G.val hok F h0 hall (x := .int .i64 ↑k) rfl (show 21 < 32 by decide) (Below.refl _ _) rfl)
      clear F hall h0
      refine wpOp_step (by rfl) (fun K' hK => ?_)
      have HKk := Lib.hid hK
      clear hK
      go_simp
      exact HKk.out _ _ ⟨v0, v1, v2, v3, v4, v5, v6, v7, v8, v9, v10, v11, v12, v13, v14, v15, v16, v17, v18, v19, v20, .int .i64 ↑k, v22, v23, v24, v25, v26, v27, v28, v29, v30, v31, rfl, HF.out⟩
    | 22, _, h0, hall =>
      obtain rfl : v20 = .slice (some ⟨pI, 0, none⟩) 8 8 := F.fs 20 (hall 20 (by decide +kernel))
      obtain rfl : v21 = .int .i64 ↑k := F.fs 21 (hall 21 (by decide +kernel))
      have HF := Lib.hid (show G _ _ _ _ _ [v0, v1, v2, v3, v4, v5, v6, v7, v8, v9, v10, v11, v12, v13, v14, v15, v16, v17, v18, v19, (.slice (some ⟨pI, 0, none⟩) 8 8), (.int .i64 ↑k), .pointer (some ⟨pI, k, none⟩), v23, v24, v25, v26, v27, v28, v29, v30, v31] from G.val hok F h0 hall (x := .pointer (some ⟨pI, k, none⟩)) rfl (show 22 < 32 by decide) (Below.refl _ _) rfl)
      clear F hall h0
      refine wpOp_step (by rfl) (fun K' hK => ?_)
      have HKk := Lib.hid hK
      clear hK
      go_simp
      exact HKk.out _ _ ⟨v0, v1, v2, v3, v4, v5, v6, v7, v8, v9, v10, v11, v12, v13, v14, v15, v16, v17, v18, v19, (.slice (some ⟨pI, 0, none⟩) 8 8), (.int .i64 ↑k), .pointer (some ⟨pI, k, none⟩), v23, v24, v25, v26, v27, v28, v29, v30, v31, rfl, HF.out⟩
    | 23, _, h0, hall =>
      obtain rfl : v22 = .pointer (some ⟨pI, k, none⟩) := F.fs 22 (hall 22 (by decide +kernel))
      have x_0 := HI.out _ F.bel
      have HF := Lib.hid (show G _ _ _ _ _ [v0, v1, v2, v3, v4, v5, v6, v7, v8, v9, v10, v11, v12, v13, v14, v15, v16, v17, v18, v19, v20, v21, (.pointer (some ⟨pI, k, none⟩)), .int .i64 o, v24, v25, v26, v27, v28, v29, v30, v31] from G.val hok F h0 hall (x := .int .i64 o) rfl (show 23 < 32 by decide) (Below.refl _ _) rfl)
      clear F hall h0
      refine wpOp_step (by rfl) (fun K' hK => ?_)
      have HKk := Lib.hid hK
      clear hK
      go_simp
      exact HKk.out _ _ ⟨v0, v1, v2, v3, v4, v5, v6, v7, v8, v9, v10, v11, v12, v13, v14, v15, v16, v17, v18, v19, v20, v21, (.pointer (some ⟨pI, k, none⟩)), .int .i64 o, v24, v25, v26, v27, v28, v29, v30, v31, rfl, HF.out⟩
    | 24, _, h0, hall =>
      have x := HXtb.out.below F.bel
      have x_0 : w'.cell? ⟨g1, 0, none⟩ = some (.int .i64 tb.op) := x.cell 0
      have x_1 : w'.cell? ⟨g1, 1, none⟩ = some (.int .i64 tb.n) := x.cell 1
      have x_2 : w'.cell? ⟨g1, 2, none⟩ = some (.string tb.s) := x.cell 2
      have x_3 : w'.cell? ⟨g1, 3, none⟩ = some (.slice mb tb.args.length nb) := x.cell 3
      clear x
      have HF := Lib.hid (show G _ _ _ _ _ [v0, v1, v2, v3, v4, v5, v6, v7, v8, v9, v10, v11, v12, v13, v14, v15, v16, v17, v18, v19, v20, v21, v22, v23, .agg #[.int .i64 tb.op, .int .i64 tb.n, .string tb.s, .slice mb tb.args.length nb], v25, v26, v27, v28, v29, v30, v31] from G.val hok F h0 hall (x := .agg #[.int .i64 tb.op, .int .i64 tb.n, .string tb.s, .slice mb tb.args.length nb]) rfl (show 24 < 32 by decide) (Below.refl _ _) rfl)
      clear F hall h0
      refine wpOp_step (by rfl) (fun K' hK => ?_)
      have HKk := Lib.hid hK
      clear hK
      go_simp
      exact HKk.out _ _ ⟨v0, v1, v2, v3, v4, v5, v6, v7, v8, v9, v10, v11, v12, v13, v14, v15, v16, v17, v18, v19, v20, v21, v22, v23, .agg #[.int .i64 tb.op, .int .i64 tb.n, .string tb.s, .slice mb tb.args.length nb], v25, v26, v27, v28, v29, v30, v31, rfl, HF.out⟩
    | 25, _, h0, hall =>
      have x := HXtc.out.below F.bel
      have x_0 : w'.cell? ⟨g2, 0, none⟩ = some (.int .i64 tc.op) := x.cell 0
      have x_1 : w'.cell? ⟨g2, 1, none⟩ = some (.int .i64 tc.n) := x.cell 1
      have x_2 : w'.cell? ⟨g2, 2, none⟩ = some (.string tc.s) := x.cell 2
      have x_3 : w'.cell? ⟨g2, 3, none⟩ = some (.slice mc tc.args.length nc) := x.cell 3
      clear x
      have HF := Lib.hid (show G _ _ _ _ _ [v0, v1, v2, v3, v4, v5, v6, v7, v8, v9, v10, v11, v12, v13, v14, v15, v16, v17, v18, v19, v20, v21, v22, v23, v24, .agg #[.int .i64 tc.op, .int .i64 tc.n, .string tc.s, .slice mc tc.args.length nc], v26, v27, v28, v29, v30, v31] from G.val hok F h0 hall (x := .agg #[.int .i64 tc.op, .int .i64 tc.n, .string tc.s, .slice mc tc.args.length nc]) rfl (show 25 < 32 by decide) (Below.refl _ _) rfl)
      clear F hall h0
      refine wpOp_step (by rfl) (fun K' hK => ?_)
      have HKk := Lib.hid hK
      clear hK
      go_simp
      exact HKk.out _ _ ⟨v0, v1, v2, v3, v4, v5, v6, v7, v8, v9, v10, v11, v12, v13, v14, v15, v16, v17, v18, v19, v20, v21, v22, v23, v24, .agg #[.int .i64 tc.op, .int .i64 tc.n, .string tc.s, .slice mc tc.args.length nc], v26, v27, v28, v29, v30, v31, rfl, HF.out⟩
    | 26, _, h0, hall =>
      obtain rfl : v24 = .agg #[.int .i64 tb.op, .int .i64 tb.n, .string tb.s, .slice mb tb.args.length nb] := F.fs 24 (hall 24 (by decide +kernel))
      obtain rfl : v25 = .agg #[.int .i64 tc.op, .int .i64 tc.n, .string tc.s, .slice mc tc.args.length nc] := F.fs 25 (hall 25 (by decide +kernel))
      have HF := Lib.hid (show G _ _ _ _ _ [v0, v1, v2, v3, v4, v5, v6, v7, v8, v9, v10, v11, v12, v13, v14, v15, v16, v17, v18, v19, v20, v21, v22, v23, (.agg #[.int .i64 tb.op, .int .i64 tb.n, .string tb.s, .slice mb tb.args.length nb]), (.agg #[.int .i64 tc.op, .int .i64 tc.n, .string tc.s, .slice mc tc.args.length nc]), .slice (some ⟨w'.heap.size, 0, none⟩) 2 2, v27, v28, v29, v30, v31] from G.blk hok F h0 hall (n := 2) (c := #[.int .i64 tb.op, .int .i64 tb.n, .string tb.s, .slice mb tb.args.length nb, .int .i64 tc.op, .int .i64 tc.n, .string tc.s, .slice mc tc.args.length nc]) rfl (show 26 < 32 by decide) rfl)
      clear F hall h0
      refine wpOp_step (by rfl) (fun K' hK => ?_)
      have HKk := Lib.hid hK
      clear hK
      go_simp
      exact HKk.out _ _ ⟨v0, v1, v2, v3, v4, v5, v6, v7, v8, v9, v10, v11, v12, v13, v14, v15, v16, v17, v18, v19, v20, v21, v22, v23, (.agg #[.int .i64 tb.op, .int .i64 tb.n, .string tb.s, .slice mb tb.args.length nb]), (.agg #[.int .i64 tc.op, .int .i64 tc.n, .string tc.s, .slice mc tc.args.length nc]), .slice (some ⟨w'.heap.size, 0, none⟩) 2 2, v27, v28, v29, v30, v31, rfl, HF.out⟩
    | 27, _, h0, hall =>
      obtain rfl : v23 = .int .i64 o := F.fs 23 (hall 23 (by decide +kernel))
      obtain ⟨g26, e26, x26⟩ : ∃ q, v26 = .slice (some ⟨q, 0, none⟩) 2 2 ∧ Bx w' q #[.int .i64 tb.op, .int .i64 tb.n, .string tb.s, .slice mb tb.args.length nb, .int .i64 tc.op, .int .i64 tc.n, .string tc.s, .slice mc tc.args.length nc] 28 := F.fs 26 (hall 26 (by decide +kernel))
      subst e26
      have HF := Lib.hid (fun w2 (hb : Below w'.heap.size w' w2) => show G _ _ _ _ w2 [v0, v1, v2, v3, v4, v5, v6, v7, v8, v9, v10, v11, v12, v13, v14, v15, v16, v17, v18, v19, v20, v21, v22, (.int .i64 o), v24, v25, (.slice (some ⟨g26, 0, none⟩) 2 2), .agg #[.int .i64 o, .int .i64 0, .string ⟨#[]⟩, (.slice (some ⟨g26, 0, none⟩) 2 2)], v28, v29, v30, v31] from G.val hok F h0 hall (x := .agg #[.int .i64 o, .int .i64 0, .string ⟨#[]⟩, (.slice (some ⟨g26, 0, none⟩) 2 2)]) rfl (show 27 < 32 by decide) hb rfl)
      clear F hall h0
      refine wpOp_step (by rfl) (fun K' hK => ?_)
      have HKk := Lib.hid hK
      clear hK
      go_simp
      refine (HAp.out _ _ _ _ _).mono ?_
      rintro er w2 ⟨rfl, hb⟩
      replace HF := Lib.hid (HF.out w2 hb)
      exact HKk.out _ _ ⟨v0, v1, v2, v3, v4, v5, v6, v7, v8, v9, v10, v11, v12, v13, v14, v15, v16, v17, v18, v19, v20, v21, v22, (.int .i64 o), v24, v25, (.slice (some ⟨g26, 0, none⟩) 2 2), .agg #[.int .i64 o, .int .i64 0, .string ⟨#[]⟩, (.slice (some ⟨g26, 0, none⟩) 2 2)], v28, v29, v30, v31, rfl, HF.out⟩
    | 28, _, h0, hall =>
      obtain rfl : v19 = .agg #[.int .i64 ta.op, .int .i64 ta.n, .string ta.s, .slice ma ta.args.length na] := F.fs 19 (hall 19 (by decide +kernel))
      obtain ⟨g26, e26, x26⟩ : ∃ q, v26 = .slice (some ⟨q, 0, none⟩) 2 2 ∧ Bx w' q #[.int .i64 tb.op, .int .i64 tb.n, .string tb.s, .slice mb tb.args.length nb, .int .i64 tc.op, .int .i64 tc.n, .string tc.s, .slice mc tc.args.length nc] 28 := F.fs 26 (F.cl 27 (hall 27 (by decide +kernel)) 26 (by decide +kernel))
      subst e26
      obtain rfl : v27 = .agg #[.int .i64 o, .int .i64 0, .string ⟨#[]⟩, (.slice (some ⟨g26, 0, none⟩) 2 2)] := F.fs 27 (hall 27 (by decide +kernel))
      have HF := Lib.hid (show G _ _ _ _ _ [v0, v1, v2, v3, v4, v5, v6, v7, v8, v9, v10, v11, v12, v13, v14, v15, v16, v17, v18, (.agg #[.int .i64 ta.op, .int .i64 ta.n, .string ta.s, .slice ma ta.args.length na]), v20, v21, v22, v23, v24, v25, (.slice (some ⟨g26, 0, none⟩) 2 2), (.agg #[.int .i64 o, .int .i64 0, .string ⟨#[]⟩, (.slice (some ⟨g26, 0, none⟩) 2 2)]), .slice (some ⟨w'.heap.size, 0, none⟩) 2 2, v29, v30, v31] from G.blk hok F h0 hall (n := 2) (c := #[.int .i64 ta.op, .int .i64 ta.n, .string ta.s, .slice ma ta.args.length na, .int .i64 o, .int .i64 0, .string ⟨#[]⟩, (.slice (some ⟨g26, 0, none⟩) 2 2)]) rfl (show 28 < 32 by decide) rfl)
      clear F hall h0
      refine wpOp_step (by rfl) (fun K' hK => ?_)
      have HKk := Lib.hid hK
      clear hK
      go_simp
      exact HKk.out _ _ ⟨v0, v1, v2, v3, v4, v5, v6, v7, v8, v9, v10, v11, v12, v13, v14, v15, v16, v17, v18, (.agg #[.int .i64 ta.op, .int .i64 ta.n, .string ta.s, .slice ma ta.args.length na]), v20, v21, v22, v23, v24, v25, (.slice (some ⟨g26, 0, none⟩) 2 2), (.agg #[.int .i64 o, .int .i64 0, .string ⟨#[]⟩, (.slice (some ⟨g26, 0, none⟩) 2 2)]), .slice (some ⟨w'.heap.size, 0, none⟩) 2 2, v29, v30, v31, rfl, HF.out⟩
    | 29, _, h0, hall =>
      obtain rfl : v18 = .int .i64 o := F.fs 18 (hall 18 (by decide +kernel))
      obtain ⟨g26, e26, x26⟩ : ∃ q, v26 = .slice (some ⟨q, 0, none⟩) 2 2 ∧ Bx w' q #[.int .i64 tb.op, .int .i64 tb.n, .string tb.s, .slice mb tb.args.length nb, .int .i64 tc.op, .int .i64 tc.n, .string tc.s, .slice mc tc.args.length nc] 28 := F.fs 26 (F.cl 27 (F.cl 28 (hall 28 (by decide +kernel)) 27 (by decide +kernel)) 26 (by decide +kernel))
      subst e26
      obtain ⟨g28, e28, x28⟩ : ∃ q, v28 = .slice (some ⟨q, 0, none⟩) 2 2 ∧ Bx w' q #[.int .i64 ta.op, .int .i64 ta.n, .string ta.s, .slice ma ta.args.length na, .int .i64 o, .int .i64 0, .string ⟨#[]⟩, (.slice (some ⟨g26, 0, none⟩) 2 2)] 28 := F.fs 28 (hall 28 (by decide +kernel))
      subst e28
      have HF := Lib.hid (fun w2 (hb : Below w'.heap.size w' w2) => show G _ _ _ _ w2 [v0, v1, v2, v3, v4, v5, v6, v7, v8, v9, v10, v11, v12, v13, v14, v15, v16, v17, (.int .i64 o), v19, v20, v21, v22, v23, v24, v25, (.slice (some ⟨g26, 0, none⟩) 2 2), v27, (.slice (some ⟨g28, 0, none⟩) 2 2), .agg #[.int .i64 o, .int .i64 0, .string ⟨#[]⟩, (.slice (some ⟨g28, 0, none⟩) 2 2)], v30, v31] from G.val hok F h0 hall (x := .agg #[.int .i64 o, .int .i64 0, .string ⟨#[]⟩, (.slice (some ⟨g28, 0, none⟩) 2 2)]) rfl (show 29 < 32 by decide) hb rfl)
      clear F hall h0
      refine wpOp_step (by rfl) (fun K' hK => ?_)
      have HKk := Lib.hid hK
      clear hK
      go_simp
      refine (HAp.out _ _ _ _ _).mono ?_
      rintro er w2 ⟨rfl, hb⟩
      replace HF := Lib.hid (HF.out w2 hb)
      exact HKk.out _ _ ⟨v0, v1, v2, v3, v4, v5, v6, v7, v8, v9, v10, v11, v12, v13, v14, v15, v16, v17, (.int .i64 o), v19, v20, v21, v22, v23, v24, v25, (.slice (some ⟨g26, 0, none⟩) 2 2), v27, (.slice (some ⟨g28, 0, none⟩) 2 2), .agg #[.int .i64 o, .int .i64 0, .string ⟨#[]⟩, (.slice (some ⟨g28, 0, none⟩) 2 2)], v30, v31, rfl, HF.out⟩
    | 30, _, h0, hall =>
      have HF := Lib.hid (show G _ _ _ _ _ [v0, v1, v2, v3, v4, v5, v6, v7, v8, v9, v10, v11, v12, v13, v14, v15, v16, v17, v18, v19, v20, v21, v22, v23, v24, v25, v26, v27, v28, v29, .pointer (some ⟨w'.heap.size, 0, none⟩), v31] from G.cell hok F h0 hall rfl (show 30 < 32 by decide))
      clear F hall h0
      refine wpOp_step (by rfl) (fun K' hK => ?_)
      have HKk := Lib.hid hK
      clear hK
      go_simp
      exact HKk.out _ _ ⟨v0, v1, v2, v3, v4, v5, v6, v7, v8, v9, v10, v11, v12, v13, v14, v15, v16, v17, v18, v19, v20, v21, v22, v23, v24, v25, v26, v27, v28, v29, .pointer (some ⟨w'.heap.size, 0, none⟩), v31, rfl, HF.out⟩
    | 31, _, h0, hall =>
      have HF := Lib.hid (show G _ _ _ _ _ [v0, v1, v2, v3, v4, v5, v6, v7, v8, v9, v10, v11, v12, v13, v14, v15, v16, v17, v18, v19, v20, v21, v22, v23, v24, v25, v26, v27, v28, v29, v30, .pointer (some ⟨w'.heap.size, 0, none⟩)] from G.cell hok F h0 hall rfl (show 31 < 32 by decide))
      clear F hall h0
      refine wpOp_step (by rfl) (fun K' hK => ?_)
      have HKk := Lib.hid hK
      clear hK
      go_simp
      exact HKk.out _ _ ⟨v0, v1, v2, v3, v4, v5, v6, v7, v8, v9, v10, v11, v12, v13, v14, v15, v16, v17, v18, v19, v20, v21, v22, v23, v24, v25, v26, v27, v28, v29, v30, .pointer (some ⟨w'.heap.size, 0, none⟩), rfl, HF.out⟩
    | 32, _, h0, hall =>
      obtain ⟨g10, e10, x10⟩ : ∃ q, v10 = .slice (some ⟨q, 0, none⟩) 2 2 ∧ Bx w' q #[.int .i64 ta.op, .int .i64 ta.n, .string ta.s, .slice ma ta.args.length na, .int .i64 tb.op, .int .i64 tb.n, .string tb.s, .slice mb tb.args.length nb] 28 := F.fs 10 (F.cl 11 (F.cl 13 (F.cl 14 (hall 14 (by decide +kernel)) 13 (by decide +kernel)) 11 (by decide +kernel)) 10 (by decide +kernel))
      subst e10
      obtain ⟨g13, e13, x13⟩ : ∃ q, v13 = .slice (some ⟨q, 0, none⟩) 2 2 ∧ Bx w' q #[.int .i64 o, .int .i64 0, .string ⟨#[]⟩, (.slice (some ⟨g10, 0, none⟩) 2 2), .int .i64 tc.op, .int .i64 tc.n, .string tc.s, .slice mc tc.args.length nc] 28 := F.fs 13 (F.cl 14 (hall 14 (by decide +kernel)) 13 (by decide +kernel))
      subst e13
      obtain rfl : v14 = .agg #[.int .i64 o, .int .i64 0, .string ⟨#[]⟩, (.slice (some ⟨g13, 0, none⟩) 2 2)] := F.fs 14 (hall 14 (by decide +kernel))
      obtain ⟨g30, e30, hz, hx, _⟩ : ∃ q, v30 = .pointer (some ⟨q, 0, none⟩) ∧ wr.heap.size ≤ q ∧ (¬ On l 32 → Bx w' q #[.int .i64 0, .int .i64 0, .string ⟨#[]⟩, .slice none 0 0] 28) ∧ (On l 32 → Bx w' q #[.int .i64 o, .int .i64 0, .string ⟨#[]⟩, (.slice (some ⟨g13, 0, none⟩) 2 2)] 28) := F.fs 30 (hall 30 (by decide +kernel))
      subst e30
      have hg := hx (off_of h0)
      have x_0 := hg.cell 0
      have x_1 := hg.cell 1
      have x_2 := hg.cell 2
      have x_3 := hg.cell 3
      have y_0 := hg.free 0
      have y_1 := hg.free 1
      have y_2 := hg.free 2
      have y_3 := hg.free 3
      simp at x_0 x_1 x_2 x_3
      have HF := Lib.hid (show G _ _ _ _ (set4 w' g30 (.int .i64 o) (.int .i64 0) (.string ⟨#[]⟩) ((.slice (some ⟨g13, 0, none⟩) 2 2))) [v0, v1, v2, v3, v4, v5, v6, v7, v8, v9, (.slice (some ⟨g10, 0, none⟩) 2 2), v11, v12, (.slice (some ⟨g13, 0, none⟩) 2 2), (.agg #[.int .i64 o, .int .i64 0, .string ⟨#[]⟩, (.slice (some ⟨g13, 0, none⟩) 2 2)]), v15, v16, v17, v18, v19, v20, v21, v22, v23, v24, v25, v26, v27, v28, v29, (.pointer (some ⟨g30, 0, none⟩)), v31] from G.store hok F h0 hall (c := 30) (g := g30) rfl rfl (below_set4 F.bel hz) (fun g' hne => set4_other hne) (bx_set4 hg))
      clear F hall h0
      refine wpOp_step (by rfl) (fun K' hK => ?_)
      have HKk := Lib.hid hK
      clear hK
      go_simp
      exact HKk.out _ _ ⟨v0, v1, v2, v3, v4, v5, v6, v7, v8, v9, (.slice (some ⟨g10, 0, none⟩) 2 2), v11, v12, (.slice (some ⟨g13, 0, none⟩) 2 2), (.agg #[.int .i64 o, .int .i64 0, .string ⟨#[]⟩, (.slice (some ⟨g13, 0, none⟩) 2 2)]), v15, v16, v17, v18, v19, v20, v21, v22, v23, v24, v25, v26, v27, v28, v29, (.pointer (some ⟨g30, 0, none⟩)), v31, rfl, HF.out⟩
    | 33, _, h0, hall =>
      obtain ⟨g26, e26, x26⟩ : ∃ q, v26 = .slice (some ⟨q, 0, none⟩) 2 2 ∧ Bx w' q #[.int .i64 tb.op, .int .i64 tb.n, .string tb.s, .slice mb tb.args.length nb, .int .i64 tc.op, .int .i64 tc.n, .string tc.s, .slice mc tc.args.length nc] 28 := F.fs 26 (F.cl 27 (F.cl 28 (F.cl 29 (hall 29 (by decide +kernel)) 28 (by decide +kernel)) 27 (by decide +kernel)) 26 (by decide +kernel))
      subst e26
      obtain ⟨g28, e28, x28⟩ : ∃ q, v28 = .slice (some ⟨q, 0, none⟩) 2 2 ∧ Bx w' q #[.int .i64 ta.op, .int .i64 ta.n, .string ta.s, .slice ma ta.args.length na, .int .i64 o, .int .i64 0, .string ⟨#[]⟩, (.slice (some ⟨g26, 0, none⟩) 2 2)] 28 := F.fs 28 (F.cl 29 (hall 29 (by decide +kernel)) 28 (by decide +kernel))
      subst e28
      obtain rfl : v29 = .agg #[.int .i64 o, .int .i64 0, .string ⟨#[]⟩, (.slice (some ⟨g28, 0, none⟩) 2 2)] := F.fs 29 (hall 29 (by decide +kernel))
      obtain ⟨g31, e31, hz, hx, _⟩ : ∃ q, v31 = .pointer (some ⟨q, 0, none⟩) ∧ wr.heap.size ≤ q ∧ (¬ On l 33 → Bx w' q #[.int .i64 0, .int .i64 0, .string ⟨#[]⟩, .slice none 0 0] 28) ∧ (On l 33 → Bx w' q #[.int .i64 o, .int .i64 0, .string ⟨#[]⟩, (.slice (some ⟨g28, 0, none⟩) 2 2)] 28) := F.fs 31 (hall 31 (by decide +kernel))
      subst e31
      have hg := hx (off_of h0)
      have x_0 := hg.cell 0
      have x_1 := hg.cell 1
      have x_2 := hg.cell 2
      have x_3 := hg.cell 3
      have y_0 := hg.free 0
      have y_1 := hg.free 1
      have y_2 := hg.free 2
      have y_3 := hg.free 3
      simp at x_0 x_1 x_2 x_3
      have HF := Lib.hid (show G _ _ _ _ (set4 w' g31 (.int .i64 o) (.int .i64 0) (.string ⟨#[]⟩) ((.slice (some ⟨g28, 0, none⟩) 2 2))) [v0, v1, v2, v3, v4, v5, v6, v7, v8, v9, v10, v11, v12, v13, v14, v15, v16, v17, v18, v19, v20, v21, v22, v23, v24, v25, (.slice (some ⟨g26, 0, none⟩) 2 2), v27, (.slice (some ⟨g28, 0, none⟩) 2 2), (.agg #[.int .i64 o, .int .i64 0, .string ⟨#[]⟩, (.slice (some ⟨g28, 0, none⟩) 2 2)]), v30, (.pointer (some ⟨g31, 0, none⟩))] from G.store hok F h0 hall (c := 31) (g := g31) rfl rfl (below_set4 F.bel hz) (fun g' hne => set4_other hne) (bx_set4 hg))
      clear F hall h0
      refine wpOp_step (by rfl) (fun K' hK => ?_)
      have HKk := Lib.hid hK
      clear hK
      go_simp
      exact HKk.out _ _ ⟨v0, v1, v2, v3, v4, v5, v6, v7, v8, v9, v10, v11, v12, v13, v14, v15, v16, v17, v18, v19, v20, v21, v22, v23, v24, v25, (.slice (some ⟨g26, 0, none⟩) 2 2), v27, (.slice (some ⟨g28, 0, none⟩) 2 2), (.agg #[.int .i64 o, .int .i64 0, .string ⟨#[]⟩, (.slice (some ⟨g28, 0, none⟩) 2 2)]), v30, (.pointer (some ⟨g31, 0, none⟩)), rfl, HF.out⟩
    | i + 34, hi, _, _ => exact absurd hi (by show ¬ (i + 34 < 34); omega)
  intro l2 a2 wf hI hall
  obtain ⟨v0, hI⟩ := hI
  obtain ⟨v1, hI⟩ := hI
  obtain ⟨v2, hI⟩ := hI
  obtain ⟨v3, hI⟩ := hI
  obtain ⟨v4, hI⟩ := hI
  obtain ⟨v5, hI⟩ := hI
  obtain ⟨v6, hI⟩ := hI
  obtain ⟨v7, hI⟩ := hI
  obtain ⟨v8, hI⟩ := hI
  obtain ⟨v9, hI⟩ := hI
  obtain ⟨v10, hI⟩ := hI
  obtain ⟨v11, hI⟩ := hI
  obtain ⟨v12, hI⟩ := hI
  obtain ⟨v13, hI⟩ := hI
  obtain ⟨v14, hI⟩ := hI
  obtain ⟨v15, hI⟩ := hI
  obtain ⟨v16, hI⟩ := hI
  obtain ⟨v17, hI⟩ := hI
  obtain ⟨v18, hI⟩ := hI
  obtain ⟨v19, hI⟩ := hI
  obtain ⟨v20, hI⟩ := hI
  obtain ⟨v21, hI⟩ := hI
  obtain ⟨v22, hI⟩ := hI
  obtain ⟨v23, hI⟩ := hI
  obtain ⟨v24, hI⟩ := hI
  obtain ⟨v25, hI⟩ := hI
  obtain ⟨v26, hI⟩ := hI
  obtain ⟨v27, hI⟩ := hI
  obtain ⟨v28, hI⟩ := hI
  obtain ⟨v29, hI⟩ := hI
  obtain ⟨v30, hI⟩ := hI
  obtain ⟨v31, hI⟩ := hI
  obtain ⟨rfl, F⟩ := hI
  obtain ⟨q10, eq10, x10⟩ : ∃ q, v10 = .slice (some ⟨q, 0, none⟩) 2 2 ∧ Bx wf q #[.int .i64 ta.op, .int .i64 ta.n, .string ta.s, .slice ma ta.args.length na, .int .i64 tb.op, .int .i64 tb.n, .string tb.s, .slice mb tb.args.length nb] 28 := F.fs 10 (hall 10 (by decide +kernel))
  subst eq10
  obtain ⟨q13, eq13, x13⟩ : ∃ q, v13 = .slice (some ⟨q, 0, none⟩) 2 2 ∧ Bx wf q #[.int .i64 o, .int .i64 0, .string ⟨#[]⟩, .slice (some ⟨q10, 0, none⟩) 2 2, .int .i64 tc.op, .int .i64 tc.n, .string tc.s, .slice mc tc.args.length nc] 28 := F.fs 13 (hall 13 (by decide +kernel))
  subst eq13
  obtain ⟨gL, egL, _, _, xgL⟩ : ∃ q, v30 = .pointer (some ⟨q, 0, none⟩) ∧ wr.heap.size ≤ q ∧ (¬ On l2 32 → Bx wf q #[.int .i64 0, .int .i64 0, .string ⟨#[]⟩, .slice none 0 0] 28) ∧ (On l2 32 → Bx wf q #[.int .i64 o, .int .i64 0, .string ⟨#[]⟩, .slice (some ⟨q13, 0, none⟩) 2 2] 28) := F.fs 30 (hall 30 (by decide +kernel))
  subst egL
  have xgL2 := xgL (hall 32 (by decide +kernel))
  have HXL : Hid (Bx wf gL #[.int .i64 o, .int .i64 0, .string ⟨#[]⟩, .slice (some ⟨q13, 0, none⟩) 2 2] 28) := Lib.hid xgL2
  have HKL : Hid (A.Kids wf (some ⟨q13, 0, none⟩) (Ex.args (b2 o (b2 o ta tb) tc))) := Lib.hid (kids_2 (e := (b2 o ta tb)) (f := tc) x13 (kids_2 (e := ta) (f := tb) x10 (HKta.out.below F.bel) (HKtb.out.below F.bel)) (HKtc.out.below F.bel))
  obtain ⟨q26, eq26, x26⟩ : ∃ q, v26 = .slice (some ⟨q, 0, none⟩) 2 2 ∧ Bx wf q #[.int .i64 tb.op, .int .i64 tb.n, .string tb.s, .slice mb tb.args.length nb, .int .i64 tc.op, .int .i64 tc.n, .string tc.s, .slice mc tc.args.length nc] 28 := F.fs 26 (hall 26 (by decide +kernel))
  subst eq26
  obtain ⟨q28, eq28, x28⟩ : ∃ q, v28 = .slice (some ⟨q, 0, none⟩) 2 2 ∧ Bx wf q #[.int .i64 ta.op, .int .i64 ta.n, .string ta.s, .slice ma ta.args.length na, .int .i64 o, .int .i64 0, .string ⟨#[]⟩, .slice (some ⟨q26, 0, none⟩) 2 2] 28 := F.fs 28 (hall 28 (by decide +kernel))
  subst eq28
  obtain ⟨gR, egR, _, _, xgR⟩ : ∃ q, v31 = .pointer (some ⟨q, 0, none⟩) ∧ wr.heap.size ≤ q ∧ (¬ On l2 33 → Bx wf q #[.int .i64 0, .int .i64 0, .string ⟨#[]⟩, .slice none 0 0] 28) ∧ (On l2 33 → Bx wf q #[.int .i64 o, .int .i64 0, .string ⟨#[]⟩, .slice (some ⟨q28, 0, none⟩) 2 2] 28) := F.fs 31 (hall 31 (by decide +kernel))
  subst egR
  have xgR2 := xgR (hall 33 (by decide +kernel))
  have HXR : Hid (Bx wf gR #[.int .i64 o, .int .i64 0, .string ⟨#[]⟩, .slice (some ⟨q28, 0, none⟩) 2 2] 28) := Lib.hid xgR2
  have HKR : Hid (A.Kids wf (some ⟨q28, 0, none⟩) (Ex.args (b2 o ta (b2 o tb tc)))) := Lib.hid (kids_2 (e := ta) (f := (b2 o tb tc)) x28 (HKta.out.below F.bel) (kids_2 (e := tb) (f := tc) x26 (HKtb.out.below F.bel) (HKtc.out.below F.bel)))
  exact hQ v0 v1 v2 v3 v4 v5 v6 v7 v8 v9 v11 v12 v14 v15 v16 v17 v18 v19 v20 v21 v22 v23 v24 v25 v27 v29 q10 q13 q26 q28 gL gR _ (Lib.hid F.bel) HXL HKL HXR HKR
set_option maxHeartbeats 16000000 in
set_option maxRecDepth 1000000 in
theorem reg14 {ea eb ec : Ex} {m1 m2 m3 : Option Addr} {n1 n2 n3 : Nat} {p3 p4 p5 : Nat} {u6 u19 u20 u21 u22 u23 u24 u25 u26 u27 u28 u29 u30 u31 u32 u33 u34 u35 u36 u37 u38 u39 u40 u41 u42 u45 u46 u47 u48 u49 u50 u51 u52 u53 u54 u55 u56 u57 u58 u59 u60 u61 u62 u63 u64 u65 u66 u67 u68 u69 u70 u71 u72 u73 u74 u75 u76 y0 y2 y3 y5 y6 y8 u95 u96 u97 u98 u99 u100 u101 u102 u103 u104 u105 u106 u107 u108 u109 u110 u111 u112 u113 u120 u121 u152 u153 u154 u155 u156 u157 u158 u159 u160 u161 u162 u163 u164 u165 u166 u167 u168 u169 u170 u171 u172 u173 u174 u175 u176 u177 u178 u179 u180 u181 u182 u183 u184 u185 u186 u187 u188 u189 u190 u191 u192 u193 u194 u195 u196 u197 u198 : Value} {ta tb tc : Ex} {ma mb mc : Option Addr} {na nb nc : Nat} {g0 g1 g2 : Nat} {X Y Z s A1 A2 A3 A4 A5 A6 A7 A8 B3 B4 B5 B6 B7 B8 B9 : ByteArray} {q0 q1 q2 pI pS k q10 q13 q26 q28 gL gR : Nat} {v0 v1 v2 v3 v4 v5 v6 v7 v8 v9 v11 v12 v14 v15 v16 v17 v18 v19 v20 v21 v22 v23 v24 v25 v27 v29 : Value} {o : Int} {b0 : Bool} {wz : World} (HT : Hid (Tab wz)) (HXL : Hid (Bx wz gL #[.int .i64 o, .int .i64 0, .string ⟨#[]⟩, .slice (some ⟨q13, 0, none⟩) 2 2] 28)) (HKL : Hid (A.Kids wz (some ⟨q13, 0, none⟩) (Ex.args (b2 o (b2 o ta tb) tc)))) (HXR : Hid (Bx wz gR #[.int .i64 o, .int .i64 0, .string ⟨#[]⟩, .slice (some ⟨q28, 0, none⟩) 2 2] 28)) (HKR : Hid (A.Kids wz (some ⟨q28, 0, none⟩) (Ex.args (b2 o ta (b2 o tb tc))))) (HS : Hid (∀ (w' : World), Below wz.heap.size wz w' → w'.cell? ⟨pS, k, none⟩ = some (.string s))) (HO1 : Hid (0 ≤ o)) (HO2 : Hid (o ≤ 27)) (HOta : Hid (okE ta)) (HOtb : Hid (okE tb)) (HOtc : Hid (okE tc)) (S1 : Hid (ba (exprT (b2 o (b2 o ta tb) tc)) = A8)) (S2 : Hid (ba (exprT (b2 o ta (b2 o tb tc))) = B9)) (hlt : k < 8) (hltI : (k : Int) < 8) (HA1 : Hid (X ++ ⟨#[32]⟩ = A1)) (HA2 : Hid (A1 ++ s = A2)) (HA3 : Hid (A2 ++ ⟨#[32]⟩ = A3)) (HA4 : Hid (A3 ++ Y = A4)) (HA5 : Hid (A4 ++ ⟨#[32]⟩ = A5)) (HA6 : Hid (A5 ++ s = A6)) (HA7 : Hid (A6 ++ ⟨#[32]⟩ = A7)) (HA8 : Hid (A7 ++ Z = A8)) (HB3 : Hid (A2 ++ ⟨#[32, 40]⟩ = B3)) (HB4 : Hid (B3 ++ Y = B4)) (HB5 : Hid (B4 ++ ⟨#[32]⟩ = B5)) (HB6 : Hid (B5 ++ s = B6)) (HB7 : Hid (B6 ++ ⟨#[32]⟩ = B7)) (HB8 : Hid (B7 ++ Z = B8)) (HB9 : Hid (B8 ++ ⟨#[41]⟩ = B9)) (zA1 : A1.size ≤ 573440) (zA2 : A2.size ≤ 573450) (zA3 : A3.size ≤ 573460) (zA4 : A4.size ≤ 1200000) (zA5 : A5.size ≤ 1200010) (zA6 : A6.size ≤ 1200020) (zA7 : A7.size ≤ 1200030) (zA8 : A8.size ≤ 1800000) (zB3 : B3.size ≤ 573460) (zB4 : B4.size ≤ 1200000) (zB5 : B5.size ≤ 1200010) (zB6 : B6.size ≤ 1200020) (zB7 : B7.size ≤ 1200030) (zB8 : B8.size ≤ 1800000) (zB9 : B9.size ≤ 1800010) (zX : X.size ≤ 573430) (zY : Y.size ≤ 573430) (zZ : Z.size ≤ 573430) (hz : s.size ≤ 3) (Q : Exit → Act → World → Prop) (hQ : ∀ (z0 z1 z2 z3 z4 z5 z6 z7 z8 z9 z10 z11 z12 z13 z14 z15 z16 z17 z18 z19 z20 z21 z22 z23 z24 z25 z26 z27 z28 z29 z30 z31 z32 z33 z34 z35 z36 z37 z38 z39 z40 z41 z42 z43 z44 z45 : Value) (wf : World), Hid (Below wz.heap.size wz wf) → Q .normal { tmps := #[.agg #[.int .i64 ea.op, .int .i64 ea.n, .string ea.s, .slice m1 ea.args.length n1], .agg #[.int .i64 eb.op, .int .i64 eb.n, .string eb.s, .slice m2 eb.args.length n2], .agg #[.int .i64 ec.op, .int .i64 ec.n, .string ec.s, .slice m3 ec.args.length n3], .pointer (some ⟨p3, 0, none⟩), .pointer (some ⟨p4, 0, none⟩), .pointer (some ⟨p5, 0, none⟩), u6, .pointer (some ⟨g0, 0, none⟩), .pointer (some ⟨g1, 0, none⟩), .pointer (some ⟨g2, 0, none⟩), .string X, .string Y, .string Z, .slice (some ⟨pI, 0, none⟩) 8 8, .slice (some ⟨pS, 0, none⟩) 8 8, .int .i64 ↑k, .pointer (some ⟨gL, 0, none⟩), .pointer (some ⟨gR, 0, none⟩), undef, u19, u20, u21, u22, u23, u24, u25, u26, u27, u28, u29, u30, u31, u32, u33, u34, u35, u36, u37, u38, u39, u40, u41, u42, .bool false, undef, u45, u46, u47, u48, u49, u50, u51, u52, u53, u54, u55, u56, u57, u58, u59, u60, u61, u62, u63, u64, u65, u66, u67, u68, u69, u70, u71, u72, u73, u74, u75, u76, .bool false, y0, .slice (some ⟨q0, 0, none⟩) 1 1, y2, y3, .slice (some ⟨q1, 0, none⟩) 1 1, y5, y6, .slice (some ⟨q2, 0, none⟩) 1 1, y8, .agg #[.int .i64 ta.op, .int .i64 ta.n, .string ta.s, .slice ma ta.args.length na], .string X, .agg #[.int .i64 tb.op, .int .i64 tb.n, .string tb.s, .slice mb tb.args.length nb], .string Y, .agg #[.int .i64 tc.op, .int .i64 tc.n, .string tc.s, .slice mc tc.args.length nc], .string Z, .slice (some ⟨pI, 0, none⟩) 8 8, .slice (some ⟨pS, 0, none⟩) 8 8, u95, u96, u97, u98, u99, u100, u101, u102, u103, u104, u105, u106, u107, u108, u109, u110, u111, u112, u113, .bool false, undef, .int .i64 ↑k, .slice (some ⟨pI, 0, none⟩) 8 8, .int .i64 8, .bool b0, u120, u121, v0, v1, v2, v3, v4, v5, v6, v7, v8, v9, .slice (some ⟨q10, 0, none⟩) 2 2, v11, v12, .slice (some ⟨q13, 0, none⟩) 2 2, v14, v15, v16, v17, v18, v19, v20, v21, v22, v23, v24, v25, .slice (some ⟨q26, 0, none⟩) 2 2, v27, .slice (some ⟨q28, 0, none⟩) 2 2, v29, z0, z1, z2, z3, z4, z5, z6, z7, z8, z9, z10, z11, z12, z13, z14, z15, z16, z17, z18, z19, z20, z21, z22, z23, z24, z25, z26, z27, z28, z29, z30, z31, z32, z33, z34, z35, z36, z37, z38, z39, z40, z41, z42, z43, z44, z45, .bool false, undef, undef, undef, undef, undef, undef, undef, undef, undef, undef, undef, undef, undef, undef, undef, undef, undef, undef, undef, undef, undef, undef, undef, undef, undef, undef, undef, undef, undef, undef, undef, undef], defers := [] } wf) :
    Code.wp Tryd.prog (Code.region 14 (opsOf 14) true) Q { tmps := #[.agg #[.int .i64 ea.op, .int .i64 ea.n, .string ea.s, .slice m1 ea.args.length n1], .agg #[.int .i64 eb.op, .int .i64 eb.n, .string eb.s, .slice m2 eb.args.length n2], .agg #[.int .i64 ec.op, .int .i64 ec.n, .string ec.s, .slice m3 ec.args.length n3], .pointer (some ⟨p3, 0, none⟩), .pointer (some ⟨p4, 0, none⟩), .pointer (some ⟨p5, 0, none⟩), u6, .pointer (some ⟨g0, 0, none⟩), .pointer (some ⟨g1, 0, none⟩), .pointer (some ⟨g2, 0, none⟩), .string X, .string Y, .string Z, .slice (some ⟨pI, 0, none⟩) 8 8, .slice (some ⟨pS, 0, none⟩) 8 8, .int .i64 ↑k, .pointer (some ⟨gL, 0, none⟩), .pointer (some ⟨gR, 0, none⟩), undef, u19, u20, u21, u22, u23, u24, u25, u26, u27, u28, u29, u30, u31, u32, u33, u34, u35, u36, u37, u38, u39, u40, u41, u42, .bool false, undef, u45, u46, u47, u48, u49, u50, u51, u52, u53, u54, u55, u56, u57, u58, u59, u60, u61, u62, u63, u64, u65, u66, u67, u68, u69, u70, u71, u72, u73, u74, u75, u76, .bool false, y0, .slice (some ⟨q0, 0, none⟩) 1 1, y2, y3, .slice (some ⟨q1, 0, none⟩) 1 1, y5, y6, .slice (some ⟨q2, 0, none⟩) 1 1, y8, .agg #[.int .i64 ta.op, .int .i64 ta.n, .string ta.s, .slice ma ta.args.length na], .string X, .agg #[.int .i64 tb.op, .int .i64 tb.n, .string tb.s, .slice mb tb.args.length nb], .string Y, .agg #[.int .i64 tc.op, .int .i64 tc.n, .string tc.s, .slice mc tc.args.length nc], .string Z, .slice (some ⟨pI, 0, none⟩) 8 8, .slice (some ⟨pS, 0, none⟩) 8 8, u95, u96, u97, u98, u99, u100, u101, u102, u103, u104, u105, u106, u107, u108, u109, u110, u111, u112, u113, .bool false, undef, .int .i64 ↑k, .slice (some ⟨pI, 0, none⟩) 8 8, .int .i64 8, .bool b0, u120, u121, v0, v1, v2, v3, v4, v5, v6, v7, v8, v9, .slice (some ⟨q10, 0, none⟩) 2 2, v11, v12, .slice (some ⟨q13, 0, none⟩) 2 2, v14, v15, v16, v17, v18, v19, v20, v21, v22, v23, v24, v25, .slice (some ⟨q26, 0, none⟩) 2 2, v27, .slice (some ⟨q28, 0, none⟩) 2 2, v29, u152, u153, u154, u155, u156, u157, u158, u159, u160, u161, u162, u163, u164, u165, u166, u167, u168, u169, u170, u171, u172, u173, u174, u175, u176, u177, u178, u179, u180, u181, u182, u183, u184, u185, u186, u187, u188, u189, u190, u191, u192, u193, u194, u195, u196, u197, u198, undef, undef, undef, undef, undef, undef, undef, undef, undef, undef, undef, undef, undef, undef, undef, undef, undef, undef, undef, undef, undef, undef, undef, undef, undef, undef, undef, undef, undef, undef, undef, undef], defers := [] } wz := by
  conv => arg 2; arg 2; whnf
  refine wp_region_G rfl ([.val [] (fun _ => .agg #[.int .i64 o, .int .i64 0, .string ⟨#[]⟩, .slice (some ⟨q13, 0, none⟩) 2 2]), .val [] (fun _ => .string A8), .val [] (fun _ => .string X), .val [] (fun _ => .string A1), .val [] (fun _ => .slice (some ⟨pS, 0, none⟩) 8 8), .val [] (fun _ => .int .i64 ↑k), .val [] (fun _ => .pointer (some ⟨pS, k, none⟩)), .val [] (fun _ => .string s), .val [] (fun _ => .string A2), .val [] (fun _ => .string A3), .val [] (fun _ => .string Y), .val [] (fun _ => .string A4), .val [] (fun _ => .string A5), .val [] (fun _ => .slice (some ⟨pS, 0, none⟩) 8 8), .val [] (fun _ => .int .i64 ↑k), .val [] (fun _ => .pointer (some ⟨pS, k, none⟩)), .val [] (fun _ => .string s), .val [] (fun _ => .string A6), .val [] (fun _ => .string A7), .val [] (fun _ => .string Z), .val [] (fun _ => .string A8), .val [] (fun _ => .bool false), .val [] (fun _ => .bool false), .val [] (fun _ => .agg #[.int .i64 o, .int .i64 0, .string ⟨#[]⟩, .slice (some ⟨q28, 0, none⟩) 2 2]), .val [] (fun _ => .string B9), .val [] (fun _ => .string X), .val [] (fun _ => .string A1), .val [] (fun _ => .slice (some ⟨pS, 0, none⟩) 8 8), .val [] (fun _ => .int .i64 ↑k), .val [] (fun _ => .pointer (some ⟨pS, k, none⟩)), .val [] (fun _ => .string s), .val [] (fun _ => .string A2), .val [] (fun _ => .string B3), .val [] (fun _ => .string Y), .val [] (fun _ => .string B4), .val [] (fun _ => .string B5), .val [] (fun _ => .slice (some ⟨pS, 0, none⟩) 8 8), .val [] (fun _ => .int .i64 ↑k), .val [] (fun _ => .pointer (some ⟨pS, k, none⟩)), .val [] (fun _ => .string s), .val [] (fun _ => .string B6), .val [] (fun _ => .string B7), .val [] (fun _ => .string Z), .val [] (fun _ => .string B8), .val [] (fun _ => .string B9), .val [] (fun _ => .bool false), .val [] (fun _ => .bool false)]) (fun ks ops l a w' => ∃ z0 z1 z2 z3 z4 z5 z6 z7 z8 z9 z10 z11 z12 z13 z14 z15 z16 z17 z18 z19 z20 z21 z22 z23 z24 z25 z26 z27 z28 z29 z30 z31 z32 z33 z34 z35 z36 z37 z38 z39 z40 z41 z42 z43 z44 z45 z46 : Value, a = { tmps := #[.agg #[.int .i64 ea.op, .int .i64 ea.n, .string ea.s, .slice m1 ea.args.length n1], .agg #[.int .i64 eb.op, .int .i64 eb.n, .string eb.s, .slice m2 eb.args.length n2], .agg #[.int .i64 ec.op, .int .i64 ec.n, .string ec.s, .slice m3 ec.args.length n3], .pointer (some ⟨p3, 0, none⟩), .pointer (some ⟨p4, 0, none⟩), .pointer (some ⟨p5, 0, none⟩), u6, .pointer (some ⟨g0, 0, none⟩), .pointer (some ⟨g1, 0, none⟩), .pointer (some ⟨g2, 0, none⟩), .string X, .string Y, .string Z, .slice (some ⟨pI, 0, none⟩) 8 8, .slice (some ⟨pS, 0, none⟩) 8 8, .int .i64 ↑k, .pointer (some ⟨gL, 0, none⟩), .pointer (some ⟨gR, 0, none⟩), undef, u19, u20, u21, u22, u23, u24, u25, u26, u27, u28, u29, u30, u31, u32, u33, u34, u35, u36, u37, u38, u39, u40, u41, u42, .bool false, undef, u45, u46, u47, u48, u49, u50, u51, u52, u53, u54, u55, u56, u57, u58, u59, u60, u61, u62, u63, u64, u65, u66, u67, u68, u69, u70, u71, u72, u73, u74, u75, u76, .bool false, y0, .slice (some ⟨q0, 0, none⟩) 1 1, y2, y3, .slice (some ⟨q1, 0, none⟩) 1 1, y5, y6, .slice (some ⟨q2, 0, none⟩) 1 1, y8, .agg #[.int .i64 ta.op, .int .i64 ta.n, .string ta.s, .slice ma ta.args.length na], .string X, .agg #[.int .i64 tb.op, .int .i64 tb.n, .string tb.s, .slice mb tb.args.length nb], .string Y, .agg #[.int .i64 tc.op, .int .i64 tc.n, .string tc.s, .slice mc tc.args.length nc], .string Z, .slice (some ⟨pI, 0, none⟩) 8 8, .slice (some ⟨pS, 0, none⟩) 8 8, u95, u96, u97, u98, u99, u100, u101, u102, u103, u104, u105, u106, u107, u108, u109, u110, u111, u112, u113, .bool false, undef, .int .i64 ↑k, .slice (some ⟨pI, 0, none⟩) 8 8, .int .i64 8, .bool b0, u120, u121, v0, v1, v2, v3, v4, v5, v6, v7, v8, v9, .slice (some ⟨q10, 0, none⟩) 2 2, v11, v12, .slice (some ⟨q13, 0, none⟩) 2 2, v14, v15, v16, v17, v18, v19, v20, v21, v22, v23, v24, v25, .slice (some ⟨q26, 0, none⟩) 2 2, v27, .slice (some ⟨q28, 0, none⟩) 2 2, v29, z0, z1, z2, z3, z4, z5, z6, z7, z8, z9, z10, z11, z12, z13, z14, z15, z16, z17, z18, z19, z20, z21, z22, z23, z24, z25, z26, z27, z28, z29, z30, z31, z32, z33, z34, z35, z36, z37, z38, z39, z40, z41, z42, z43, z44, z45, z46, undef, undef, undef, undef, undef, undef, undef, undef, undef, undef, undef, undef, undef, undef, undef, undef, undef, undef, undef, undef, undef, undef, undef, undef, undef, undef, undef, undef, undef, undef, undef, undef], defers := [] } ∧ G ks ops wz l w' [z0, z1, z2, z3, z4, z5, z6, z7, z8, z9, z10, z11, z12, z13, z14, z15, z16, z17, z18, z19, z20, z21, z22, z23, z24, z25, z26, z27, z28, z29, z30, z31, z32, z33, z34, z35, z36, z37, z38, z39, z40, z41, z42, z43, z44, z45, z46]) (by kernel_rfl) (by kernel_rfl) ?_ ?_ ?_
  · intro l hl
    exact ⟨u152, u153, u154, u155, u156, u157, u158, u159, u160, u161, u162, u163, u164, u165, u166, u167, u168, u169, u170, u171, u172, u173, u174, u175, u176, u177, u178, u179, u180, u181, u182, u183, u184, u185, u186, u187, u188, u189, u190, u191, u192, u193, u194, u195, u196, u197, u198, rfl, G.start _ _ hl _⟩
  · intro hok l a w' hI i hi h0 hall
    obtain ⟨z0, hI⟩ := hI
    obtain ⟨z1, hI⟩ := hI
    obtain ⟨z2, hI⟩ := hI
    obtain ⟨z3, hI⟩ := hI
    obtain ⟨z4, hI⟩ := hI
    obtain ⟨z5, hI⟩ := hI
    obtain ⟨z6, hI⟩ := hI
    obtain ⟨z7, hI⟩ := hI
    obtain ⟨z8, hI⟩ := hI
    obtain ⟨z9, hI⟩ := hI
    obtain ⟨z10, hI⟩ := hI
    obtain ⟨z11, hI⟩ := hI
    obtain ⟨z12, hI⟩ := hI
    obtain ⟨z13, hI⟩ := hI
    obtain ⟨z14, hI⟩ := hI
    obtain ⟨z15, hI⟩ := hI
    obtain ⟨z16, hI⟩ := hI
    obtain ⟨z17, hI⟩ := hI
    obtain ⟨z18, hI⟩ := hI
    obtain ⟨z19, hI⟩ := hI
    obtain ⟨z20, hI⟩ := hI
    obtain ⟨z21, hI⟩ := hI
    obtain ⟨z22, hI⟩ := hI
    obtain ⟨z23, hI⟩ := hI
    obtain ⟨z24, hI⟩ := hI
    obtain ⟨z25, hI⟩ := hI
    obtain ⟨z26, hI⟩ := hI
    obtain ⟨z27, hI⟩ := hI
    obtain ⟨z28, hI⟩ := hI
    obtain ⟨z29, hI⟩ := hI
    obtain ⟨z30, hI⟩ := hI
    obtain ⟨z31, hI⟩ := hI
    obtain ⟨z32, hI⟩ := hI
    obtain ⟨z33, hI⟩ := hI
    obtain ⟨z34, hI⟩ := hI
    obtain ⟨z35, hI⟩ := hI
    obtain ⟨z36, hI⟩ := hI
    obtain ⟨z37, hI⟩ := hI
    obtain ⟨z38, hI⟩ := hI
    obtain ⟨z39, hI⟩ := hI
    obtain ⟨z40, hI⟩ := hI
    obtain ⟨z41, hI⟩ := hI
    obtain ⟨z42, hI⟩ := hI
    obtain ⟨z43, hI⟩ := hI
    obtain ⟨z44, hI⟩ := hI
    obtain ⟨z45, hI⟩ := hI
    obtain ⟨z46, hI⟩ := hI
    obtain ⟨rfl, F⟩ := hI
    match i, hi, h0, hall with
    | 0, _, h0, hall =>
      have x := HXL.out.below F.bel
      have x_0 : w'.cell? ⟨gL, 0, none⟩ = some (.int .i64 o) := x.cell 0
      have x_1 : w'.cell? ⟨gL, 1, none⟩ = some (.int .i64 0) := x.cell 1
      have x_2 : w'.cell? ⟨gL, 2, none⟩ = some (.string ⟨#[]⟩) := x.cell 2
      have x_3 : w'.cell? ⟨gL, 3, none⟩ = some (.slice (some ⟨q13, 0, none⟩) 2 2) := x.cell 3
      clear x
      have HF := Lib.hid (show G _ _ _ _ _ [.agg #[.int .i64 o, .int .i64 0, .string ⟨#[]⟩, .slice (some ⟨q13, 0, none⟩) 2 2], z1, z2, z3, z4, z5, z6, z7, z8, z9, z10, z11, z12, z13, z14, z15, z16, z17, z18, z19, z20, z21, z22, z23, z24, z25, z26, z27, z28, z29, z30, z31, z32, z33, z34, z35, z36, z37, z38, z39, z40, z41, z42, z43, z44, z45, z46] from G.val hok F h0 hall (x := .agg #[.int .i64 o, .int .i64 0, .string ⟨#[]⟩, .slice (some ⟨q13, 0, none⟩) 2 2]) rfl (show 0 < 47 by decide) (Below.refl _ _) rfl)
      clear F hall h0
      refine wpOp_step (by rfl) (fun K' hK => ?_)
      have HKk := Lib.hid hK
      clear hK
      go_simp
      exact HKk.out _ _ ⟨.agg #[.int .i64 o, .int .i64 0, .string ⟨#[]⟩, .slice (some ⟨q13, 0, none⟩) 2 2], z1, z2, z3, z4, z5, z6, z7, z8, z9, z10, z11, z12, z13, z14, z15, z16, z17, z18, z19, z20, z21, z22, z23, z24, z25, z26, z27, z28, z29, z30, z31, z32, z33, z34, z35, z36, z37, z38, z39, z40, z41, z42, z43, z44, z45, z46, rfl, HF.out⟩
    | 1, _, h0, hall =>
      obtain rfl : z0 = .agg #[.int .i64 o, .int .i64 0, .string ⟨#[]⟩, .slice (some ⟨q13, 0, none⟩) 2 2] := F.fs 0 (hall 0 (by decide +kernel))
      have HC := Lib.hid (oexpr_any (b2 o (b2 o ta tb) tc) (some ⟨q13, 0, none⟩) 2 (ok_bi o HO1.out HO2.out (ok_bi o HO1.out HO2.out HOta.out HOtb.out) HOtc.out) w' (HT.out.below F.bel) (HKL.out.below F.bel))
      rw [S1.out] at HC
      have HF := Lib.hid (fun w2 (hb : Below w'.heap.size w' w2) => show G _ _ _ _ w2 [(.agg #[.int .i64 o, .int .i64 0, .string ⟨#[]⟩, .slice (some ⟨q13, 0, none⟩) 2 2]), .string A8, z2, z3, z4, z5, z6, z7, z8, z9, z10, z11, z12, z13, z14, z15, z16, z17, z18, z19, z20, z21, z22, z23, z24, z25, z26, z27, z28, z29, z30, z31, z32, z33, z34, z35, z36, z37, z38, z39, z40, z41, z42, z43, z44, z45, z46] from G.val hok F h0 hall (x := .string A8) rfl (show 1 < 47 by decide) hb rfl)
      clear F hall h0
      refine wpOp_step (by rfl) (fun K' hK => ?_)
      have HKk := Lib.hid hK
      clear hK
      go_simp
      refine HC.out.mono ?_
      rintro er w2 ⟨rfl, hb⟩
      replace HF := Lib.hid (HF.out w2 hb)
      exact HKk.out _ _ ⟨(.agg #[.int .i64 o, .int .i64 0, .string ⟨#[]⟩, .slice (some ⟨q13, 0, none⟩) 2 2]), .string A8, z2, z3, z4, z5, z6, z7, z8, z9, z10, z11, z12, z13, z14, z15, z16, z17, z18, z19, z20, z21, z22, z23, z24, z25, z26, z27, z28, z29, z30, z31, z32, z33, z34, z35, z36, z37, z38, z39, z40, z41, z42, z43, z44, z45, z46, rfl, HF.out⟩
    | 2, _, h0, hall =>
      have HF := Lib.hid (show G _ _ _ _ _ [z0, z1, .string X, z3, z4, z5, z6, z7, z8, z9, z10, z11, z12, z13, z14, z15, z16, z17, z18, z19, z20, z21, z22, z23, z24, z25, z26, z27, z28, z29, z30, z31, z32, z33, z34, z35, z36, z37, z38, z39, z40, z41, z42, z43, z44, z45, z46] from G.val hok F h0 hall (x := .string X) rfl (show 2 < 47 by decide) (Below.refl _ _) rfl)
      clear F hall h0
      refine wpOp_step (by rfl) (fun K' hK => ?_)
      have HKk := Lib.hid hK
      clear hK
      go_simp
      exact HKk.out _ _ ⟨z0, z1, .string X, z3, z4, z5, z6, z7, z8, z9, z10, z11, z12, z13, z14, z15, z16, z17, z18, z19, z20, z21, z22, z23, z24, z25, z26, z27, z28, z29, z30, z31, z32, z33, z34, z35, z36, z37, z38, z39, z40, z41, z42, z43, z44, z45, z46, rfl, HF.out⟩
    | 3, _, h0, hall =>
      obtain rfl : z2 = .string X := F.fs 2 (hall 2 (by decide +kernel))
      have HF := Lib.hid (show G _ _ _ _ _ [z0, z1, (.string X), .string A1, z4, z5, z6, z7, z8, z9, z10, z11, z12, z13, z14, z15, z16, z17, z18, z19, z20, z21, z22, z23, z24, z25, z26, z27, z28, z29, z30, z31, z32, z33, z34, z35, z36, z37, z38, z39, z40, z41, z42, z43, z44, z45, z46] from G.val hok F h0 hall (x := .string A1) rfl (show 3 < 47 by decide) (Below.refl _ _) rfl)
      clear F hall h0
      refine wpOp_step (by rfl) (fun K' hK => ?_)
      have HKk := Lib.hid hK
      clear hK
      go_simp
      rw [if_neg (by first | omega | (simp only [ByteArray.size_append, ByteArray.size] <;> simp <;> omega))]
      go_simp
      rw [HA1.out]
      exact HKk.out _ _ ⟨z0, z1, (.string X), .string A1, z4, z5, z6, z7, z8, z9, z10, z11, z12, z13, z14, z15, z16, z17, z18, z19, z20, z21, z22, z23, z24, z25, z26, z27, z28, z29, z30, z31, z32, z33, z34, z35, z36, z37, z38, z39, z40, z41, z42, z43, z44, z45, z46, rfl, HF.out⟩
    | 4, _, h0, hall =>
      have HF := Lib.hid (show G _ _ _ _ _ [z0, z1, z2, z3, .slice (some ⟨pS, 0, none⟩) 8 8, z5, z6, z7, z8, z9, z10, z11, z12, z13, z14, z15, z16, z17, z18, z19, z20, z21, z22, z23, z24, z25, z26, z27, z28, z29, z30, z31, z32, z33, z34, z35, z36, z37, z38, z39, z40, z41, z42, z43, z44, z45, z46] from G.val hok F h0 hall (x := .slice (some ⟨pS, 0, none⟩) 8 8) rfl (show 4 < 47 by decide) (Below.refl _ _) rfl)
      clear F hall h0
      refine wpOp_step (by rfl) (fun K' hK => ?_)
      have HKk := Lib.hid hK
      clear hK
      go_simp
      exact HKk.out _ _ ⟨z0, z1, z2, z3, .slice (some ⟨pS, 0, none⟩) 8 8, z5, z6, z7, z8, z9, z10, z11, z12, z13, z14, z15, z16, z17, z18, z19, z20, z21, z22, z23, z24, z25, z26, z27, z28, z29, z30, z31, z32, z33, z34, z35, z36, z37, z38, z39, z40, z41, z42, z43, z44, z45, z46, rfl, HF.out⟩
    | 5, _, h0, hall =>
      have HF := Lib.hid (show G _ _ _ _ _ [z0, z1, z2, z3, z4, .int .i64 ↑k, z6, z7, z8, z9, z10, z11, z12, z13, z14, z15, z16, z17, z18, z19, z20, z21, z22, z23, z24, z25, z26, z27, z28, z29, z30, z31, z32, z33, z34, z35, z36, z37, z38, z39, z40, z41, z42, z43, z44, z45, z46] from G.val hok F h0 hall (x := .int .i64 ↑k) rfl (show 5 < 47 by decide) (Below.refl _ _) rfl)
      clear F hall h0
      refine wpOp_step (by rfl) (fun K' hK => ?_)
      have HKk := Lib.hid hK
      clear hK
      go_simp
      exact HKk.out _ _ ⟨z0, z1, z2, z3, z4, .int .i64 ↑k, z6, z7, z8, z9, z10, z11, z12, z13, z14, z15, z16, z17, z18, z19, z20, z21, z22, z23, z24, z25, z26, z27, z28, z29, z30, z31, z32, z33, z34, z35, z36, z37, z38, z39, z40, z41, z42, z43, z44, z45, z46, rfl, HF.out⟩
    | 6, _, h0, hall =>
      obtain rfl : z4 = .slice (some ⟨pS, 0, none⟩) 8 8 := F.fs 4 (hall 4 (by decide +kernel))
      obtain rfl : z5 = .int .i64 ↑k := F.fs 5 (hall 5 (by decide +kernel))
      have HF := Lib.hid (show G _ _ _ _ _ [z0, z1, z2, z3, (.slice (some ⟨pS, 0, none⟩) 8 8), (.int .i64 ↑k), .pointer (some ⟨pS, k, none⟩), z7, z8, z9, z10, z11, z12, z13, z14, z15, z16, z17, z18, z19, z20, z21, z22, z23, z24, z25, z26, z27, z28, z29, z30, z31, z32, z33, z34, z35, z36, z37, z38, z39, z40, z41, z42, z43, z44, z45, z46] from G.val hok F h0 hall (x := .pointer (some ⟨pS, k, none⟩)) rfl (show 6 < 47 by decide) (Below.refl _ _) rfl)
      clear F hall h0
      refine wpOp_step (by rfl) (fun K' hK => ?_)
      have HKk := Lib.hid hK
      clear hK
      go_simp
      exact HKk.out _ _ ⟨z0, z1, z2, z3, (.slice (some ⟨pS, 0, none⟩) 8 8), (.int .i64 ↑k), .pointer (some ⟨pS, k, none⟩), z7, z8, z9, z10, z11, z12, z13, z14, z15, z16, z17, z18, z19, z20, z21, z22, z23, z24, z25, z26, z27, z28, z29, z30, z31, z32, z33, z34, z35, z36, z37, z38, z39, z40, z41, z42, z43, z44, z45, z46, rfl, HF.out⟩
    | 7, _, h0, hall =>
      obtain rfl : z6 = .pointer (some ⟨pS, k, none⟩) := F.fs 6 (hall 6 (by decide +kernel))
      have x_0 := HS.out _ F.bel
      have HF := Lib.hid (show G _ _ _ _ _ [z0, z1, z2, z3, z4, z5, (.pointer (some ⟨pS, k, none⟩)), .string s, z8, z9, z10, z11, z12, z13, z14, z15, z16, z17, z18, z19, z20, z21, z22, z23, z24, z25, z26, z27, z28, z29, z30, z31, z32, z33, z34, z35, z36, z37, z38, z39, z40, z41, z42, z43, z44, z45, z46] from G.val hok F h0 hall (x := .string s) rfl (show 7 < 47 by decide) (Below.refl _ _) rfl)
      clear F hall h0
      refine wpOp_step (by rfl) (fun K' hK => ?_)
      have HKk := Lib.hid hK
      clear hK
      go_simp
      exact HKk.out _ _ ⟨z0, z1, z2, z3, z4, z5, (.pointer (some ⟨pS, k, none⟩)), .string s, z8, z9, z10, z11, z12, z13, z14, z15, z16, z17, z18, z19, z20, z21, z22, z23, z24, z25, z26, z27, z28, z29, z30, z31, z32, z33, z34, z35, z36, z37, z38, z39, z40, z41, z42, z43, z44, z45, z46, rfl, HF.out⟩
    | 8, _, h0, hall =>
      obtain rfl : z3 = .string A1 := F.fs 3 (hall 3 (by decide +kernel))
      obtain rfl : z7 = .string s := F.fs 7 (hall 7 (by decide +kernel))
      have HF := Lib.hid (show G _ _ _ _ _ [z0, z1, z2, (.string A1), z4, z5, z6, (.string s), .string A2, z9, z10, z11, z12, z13, z14, z15, z16, z17, z18, z19, z20, z21, z22, z23, z24, z25, z26, z27, z28, z29, z30, z31, z32, z33, z34, z35, z36, z37, z38, z39, z40, z41, z42, z43, z44, z45, z46] from G.val hok F h0 hall (x := .string A2) rfl (show 8 < 47 by decide) (Below.refl _ _) rfl)
      clear F hall h0
      refine wpOp_step (by rfl) (fun K' hK => ?_)
      have HKk := Lib.hid hK
      clear hK
      go_simp
      rw [if_neg (by first | omega | (simp only [ByteArray.size_append, ByteArray.size] <;> simp <;> omega))]
      go_simp
      rw [HA2.out]
      exact HKk.out _ _ ⟨z0, z1, z2, (.string A1), z4, z5, z6, (.string s), .string A2, z9, z10, z11, z12, z13, z14, z15, z16, z17, z18, z19, z20, z21, z22, z23, z24, z25, z26, z27, z28, z29, z30, z31, z32, z33, z34, z35, z36, z37, z38, z39, z40, z41, z42, z43, z44, z45, z46, rfl, HF.out⟩
    | 9, _, h0, hall =>
      obtain rfl : z8 = .string A2 := F.fs 8 (hall 8 (by decide +kernel))
      have HF := Lib.hid (show G _ _ _ _ _ [z0, z1, z2, z3, z4, z5, z6, z7, (.string A2), .string A3, z10, z11, z12, z13, z14, z15, z16, z17, z18, z19, z20, z21, z22, z23, z24, z25, z26, z27, z28, z29, z30, z31, z32, z33, z34, z35, z36, z37, z38, z39, z40, z41, z42, z43, z44, z45, z46] from G.val hok F h0 hall (x := .string A3) rfl (show 9 < 47 by decide) (Below.refl _ _) rfl)
      clear F hall h0
      refine wpOp_step (by rfl) (fun K' hK => ?_)
      have HKk := Lib.hid hK
      clear hK
      go_simp
      rw [if_neg (by first | omega | (simp only [ByteArray.size_append, ByteArray.size] <;> simp <;> omega))]
      go_simp
      rw [HA3.out]
      exact HKk.out _ _ ⟨z0, z1, z2, z3, z4, z5, z6, z7, (.string A2), .string A3, z10, z11, z12, z13, z14, z15, z16, z17, z18, z19, z20, z21, z22, z23, z24, z25, z26, z27, z28, z29, z30, z31, z32, z33, z34, z35, z36, z37, z38, z39, z40, z41, z42, z43, z44, z45, z46, rfl, HF.out⟩
    | 10, _, h0, hall =>
      have HF := Lib.hid (show G _ _ _ _ _ [z0, z1, z2, z3, z4, z5, z6, z7, z8, z9, .string Y, z11, z12, z13, z14, z15, z16, z17, z18, z19, z20, z21, z22, z23, z24, z25, z26, z27, z28, z29, z30, z31, z32, z33, z34, z35, z36, z37, z38, z39, z40, z41, z42, z43, z44, z45, z46] from G.val hok F h0 hall (x := .string Y) rfl (show 10 < 47 by decide) (Below.refl _ _) rfl)
      clear F hall h0
      refine wpOp_step (by rfl) (fun K' hK => ?_)
      have HKk := Lib.hid hK
      clear hK
      go_simp
      exact HKk.out _ _ ⟨z0, z1, z2, z3, z4, z5, z6, z7, z8, z9, .string Y, z11, z12, z13, z14, z15, z16, z17, z18, z19, z20, z21, z22, z23, z24, z25, z26, z27, z28, z29, z30, z31, z32, z33, z34, z35, z36, z37, z38, z39, z40, z41, z42, z43, z44, z45, z46, rfl, HF.out⟩
    | 11, _, h0, hall =>
      obtain rfl : z9 = .string A3 := F.fs 9 (hall 9 (by decide +kernel))
      obtain rfl : z10 = .string Y := F.fs 10 (hall 10 (by decide +kernel))
      have HF := Lib.hid (show G _ _ _ _ _ [z0, z1, z2, z3, z4, z5, z6, z7, z8, (.string A3), (.string Y), .string A4, z12, z13, z14, z15, z16, z17, z18, z19, z20, z21, z22, z23, z24, z25, z26, z27, z28, z29, z30, z31, z32, z33, z34, z35, z36, z37, z38, z39, z40, z41, z42, z43, z44, z45, z46] from G.val hok F h0 hall (x := .string A4) rfl (show 11 < 47 by decide) (Below.refl _ _) rfl)
      clear F hall h0
      refine wpOp_step (by rfl) (fun K' hK => ?_)
      have HKk := Lib.hid hK
      clear hK
      go_simp
      rw [if_neg (by first | omega | (simp only [ByteArray.size_append, ByteArray.size] <;> simp <;> omega))]
      go_simp
      rw [HA4.out]
      exact HKk.out _ _ ⟨z0, z1, z2, z3, z4, z5, z6, z7, z8, (.string A3), (.string Y), .string A4, z12, z13, z14, z15, z16, z17, z18, z19, z20, z21, z22, z23, z24, z25, z26, z27, z28, z29, z30, z31, z32, z33, z34, z35, z36, z37, z38, z39, z40, z41, z42, z43, z44, z45, z46, rfl, HF.out⟩
    | 12, _, h0, hall =>
      obtain rfl : z11 = .string A4 := F.fs 11 (hall 11 (by decide +kernel))
      have HF := Lib.hid (show G _ _ _ _ _ [z0, z1, z2, z3, z4, z5, z6, z7, z8, z9, z10, (.string A4), .string A5, z13, z14, z15, z16, z17, z18, z19, z20, z21, z22, z23, z24, z25, z26, z27, z28, z29, z30, z31, z32, z33, z34, z35, z36, z37, z38, z39, z40, z41, z42, z43, z44, z45, z46] from G.val hok F h0 hall (x := .string A5) rfl (show 12 < 47 by decide) (Below.refl _ _) rfl)
      clear F hall h0
      refine wpOp_step (by rfl) (fun K' hK => ?_)
      have HKk := Lib.hid hK
      clear hK
      go_simp
      rw [if_neg (by first | omega | (simp only [ByteArray.size_append, ByteArray.size] <;> simp <;> omega))]
      go_simp
      rw [HA5.out]
      exact HKk.out _ _ ⟨z0, z1, z2, z3, z4, z5, z6, z7, z8, z9, z10, (.string A4), .string A5, z13, z14, z15, z16, z17, z18, z19, z20, z21, z22, z23, z24, z25, z26, z27, z28, z29, z30, z31, z32, z33, z34, z35, z36, z37, z38, z39, z40, z41, z42, z43, z44, z45, z46, rfl, HF.out⟩
    | 13, _, h0, hall =>
      have HF := Lib.hid (show G _ _ _ _ _ [z0, z1, z2, z3, z4, z5, z6, z7, z8, z9, z10, z11, z12, .slice (some ⟨pS, 0, none⟩) 8 8, z14, z15, z16, z17, z18, z19, z20, z21, z22, z23, z24, z25, z26, z27, z28, z29, z30, z31, z32, z33, z34, z35, z36, z37, z38, z39, z40, z41, z42, z43, z44, z45, z46] from G.val hok F h0 hall (x := .slice (some ⟨pS, 0, none⟩) 8 8) rfl (show 13 < 47 by decide) (Below.refl _ _) rfl)
      clear F hall h0
      refine wpOp_step (by rfl) (fun K' hK => ?_)
      have HKk := Lib.hid hK
      clear hK
      go_simp
      exact HKk.out _ _ ⟨z0, z1, z2, z3, z4, z5, z6, z7, z8, z9, z10, z11, z12, .slice (some ⟨pS, 0, none⟩) 8 8, z14, z15, z16, z17, z18, z19, z20, z21, z22, z23, z24, z25, z26, z27, z28, z29, z30, z31, z32, z33, z34, z35, z36, z37, z38, z39, z40, z41, z42, z43, z44, z45, z46, rfl, HF.out⟩
    | 14, _, h0, hall =>
      have HF := Lib.hid (show G _ _ _ _ _ [z0, z1, z2, z3, z4, z5, z6, z7, z8, z9, z10, z11, z12, z13, .int .i64 ↑k, z15, z16, z17, z18, z19, z20, z21, z22, z23, z24, z25, z26, z27, z28, z29, z30, z31, z32, z33, z34, z35, z36, z37, z38, z39, z40, z41, z42, z43, z44, z45, z46] from G.val hok F h0 hall (x := .int .i64 ↑k) rfl (show 14 < 47 by decide) (Below.refl _ _) rfl)
      clear F hall h0
      refine wpOp_step (by rfl) (fun K' hK => ?_)
      have HKk := Lib.hid hK
      clear hK
      go_simp
      exact HKk.out _ _ ⟨z0, z1, z2, z3, z4, z5, z6, z7, z8, z9, z10, z11, z12, z13, .int .i64 ↑k, z15, z16, z17, z18, z19, z20, z21, z22, z23, z24, z25, z26, z27, z28, z29, z30, z31, z32, z33, z34, z35, z36, z37, z38, z39, z40, z41, z42, z43, z44, z45, z46, rfl, HF.out⟩
    | 15, _, h0, hall =>
      obtain rfl : z13 = .slice (some ⟨pS, 0, none⟩) 8 8 := F.fs 13 (hall 13 (by decide +kernel))
      obtain rfl : z14 = .int .i64 ↑k := F.fs 14 (hall 14 (by decide +kernel))
      have HF := Lib.hid (show G _ _ _ _ _ [z0, z1, z2, z3, z4, z5, z6, z7, z8, z9, z10, z11, z12, (.slice (some ⟨pS, 0, none⟩) 8 8), (.int .i64 ↑k), .pointer (some ⟨pS, k, none⟩), z16, z17, z18, z19, z20, z21, z22, z23, z24, z25, z26, z27, z28, z29, z30, z31, z32, z33, z34, z35, z36, z37, z38, z39, z40, z41, z42, z43, z44, z45, z46] from G.val hok F h0 hall (x := .pointer (some ⟨pS, k, none⟩)) rfl (show 15 < 47 by decide) (Below.refl _ _) rfl)
      clear F hall h0
      refine wpOp_step (by rfl) (fun K' hK => ?_)
      have HKk := Lib.hid hK
      clear hK
      go_simp
      exact HKk.out _ _ ⟨z0, z1, z2, z3, z4, z5, z6, z7, z8, z9, z10, z11, z12, (.slice (some ⟨pS, 0, none⟩) 8 8), (.int .i64 ↑k), .pointer (some ⟨pS, k, none⟩), z16, z17, z18, z19, z20, z21, z22, z23, z24, z25, z26, z27, z28, z29, z30, z31, z32, z33, z34, z35, z36, z37, z38, z39, z40, z41, z42, z43, z44, z45, z46, rfl, HF.out⟩
    | 16, _, h0, hall =>
      obtain rfl : z15 = .pointer (some ⟨pS, k, none⟩) := F.fs 15 (hall 15 (by decide +kernel))
      have x_0 := HS.out _ F.bel
      have HF := Lib.hid (show G _ _ _ _ _ [z0, z1, z2, z3, z4, z5, z6, z7, z8, z9, z10, z11, z12, z13, z14, (.pointer (some ⟨pS, k, none⟩)), .string s, z17, z18, z19, z20, z21, z22, z23, z24, z25, z26, z27, z28, z29, z30, z31, z32, z33, z34, z35, z36, z37, z38, z39, z40, z41, z42, z43, z44, z45, z46] from G.val hok F h0 hall (x := .string s) rfl (show 16 < 47 by decide) (Below.refl _ _) rfl)
      clear F hall h0
      refine wpOp_step (by rfl) (fun K' hK => ?_)
      have HKk := Lib.hid hK
      clear hK
      go_simp
      exact HKk.out _ _ ⟨z0, z1, z2, z3, z4, z5, z6, z7, z8, z9, z10, z11, z12, z13, z14, (.pointer (some ⟨pS, k, none⟩)), .string s, z17, z18, z19, z20, z21, z22, z23, z24, z25, z26, z27, z28, z29, z30, z31, z32, z33, z34, z35, z36, z37, z38, z39, z40, z41, z42, z43, z44, z45, z46, rfl, HF.out⟩
    | 17, _, h0, hall =>
      obtain rfl : z12 = .string A5 := F.fs 12 (hall 12 (by decide +kernel))
      obtain rfl : z16 = .string s := F.fs 16 (hall 16 (by decide +kernel))
      have HF := Lib.hid (show G _ _ _ _ _ [z0, z1, z2, z3, z4, z5, z6, z7, z8, z9, z10, z11, (.string A5), z13, z14, z15, (.string s), .string A6, z18, z19, z20, z21, z22, z23, z24, z25, z26, z27, z28, z29, z30, z31, z32, z33, z34, z35, z36, z37, z38, z39, z40, z41, z42, z43, z44, z45, z46] from G.val hok F h0 hall (x := .string A6) rfl (show 17 < 47 by decide) (Below.refl _ _) rfl)
      clear F hall h0
      refine wpOp_step (by rfl) (fun K' hK => ?_)
      have HKk := Lib.hid hK
      clear hK
      go_simp
      rw [if_neg (by first | omega | (simp only [ByteArray.size_append, ByteArray.size] <;> simp <;> omega))]
      go_simp
      rw [HA6.out]
      exact HKk.out _ _ ⟨z0, z1, z2, z3, z4, z5, z6, z7, z8, z9, z10, z11, (.string A5), z13, z14, z15, (.string s), .string A6, z18, z19, z20, z21, z22, z23, z24, z25, z26, z27, z28, z29, z30, z31, z32, z33, z34, z35, z36, z37, z38, z39, z40, z41, z42, z43, z44, z45, z46, rfl, HF.out⟩
    | 18, _, h0, hall =>
      obtain rfl : z17 = .string A6 := F.fs 17 (hall 17 (by decide +kernel))
      have HF := Lib.hid (show G _ _ _ _ _ [z0, z1, z2, z3, z4, z5, z6, z7, z8, z9, z10, z11, z12, z13, z14, z15, z16, (.string A6), .string A7, z19, z20, z21, z22, z23, z24, z25, z26, z27, z28, z29, z30, z31, z32, z33, z34, z35, z36, z37, z38, z39, z40, z41, z42, z43, z44, z45, z46] from G.val hok F h0 hall (x := .string A7) rfl (show 18 < 47 by decide) (Below.refl _ _) rfl)
      clear F hall h0
      refine wpOp_step (by rfl) (fun K' hK => ?_)
      have HKk := Lib.hid hK
      clear hK
      go_simp
      rw [if_neg (by first | omega | (simp only [ByteArray.size_append, ByteArray.size] <;> simp <;> omega))]
      go_simp
      rw [HA7.out]
      exact HKk.out _ _ ⟨z0, z1, z2, z3, z4, z5, z6, z7, z8, z9, z10, z11, z12, z13, z14, z15, z16, (.string A6), .string A7, z19, z20, z21, z22, z23, z24, z25, z26, z27, z28, z29, z30, z31, z32, z33, z34, z35, z36, z37, z38, z39, z40, z41, z42, z43, z44, z45, z46, rfl, HF.out⟩
    | 19, _, h0, hall =>
      have HF := Lib.hid (show G _ _ _ _ _ [z0, z1, z2, z3, z4, z5, z6, z7, z8, z9, z10, z11, z12, z13, z14, z15, z16, z17, z18, .string Z, z20, z21, z22, z23, z24, z25, z26, z27, z28, z29, z30, z31, z32, z33, z34, z35, z36, z37, z38, z39, z40, z41, z42, z43, z44, z45, z46] from G.val hok F h0 hall (x := .string Z) rfl (show 19 < 47 by decide) (Below.refl _ _) rfl)
      clear F hall h0
      refine wpOp_step (by rfl) (fun K' hK => ?_)
      have HKk := Lib.hid hK
      clear hK
      go_simp
      exact HKk.out _ _ ⟨z0, z1, z2, z3, z4, z5, z6, z7, z8, z9, z10, z11, z12, z13, z14, z15, z16, z17, z18, .string Z, z20, z21, z22, z23, z24, z25, z26, z27, z28, z29, z30, z31, z32, z33, z34, z35, z36, z37, z38, z39, z40, z41, z42, z43, z44, z45, z46, rfl, HF.out⟩
    | 20, _, h0, hall =>
      obtain rfl : z18 = .string A7 := F.fs 18 (hall 18 (by decide +kernel))
      obtain rfl : z19 = .string Z := F.fs 19 (hall 19 (by decide +kernel))
      have HF := Lib.hid (show G _ _ _ _ _ [z0, z1, z2, z3, z4, z5, z6, z7, z8, z9, z10, z11, z12, z13, z14, z15, z16, z17, (.string A7), (.string Z), .string A8, z21, z22, z23, z24, z25, z26, z27, z28, z29, z30, z31, z32, z33, z34, z35, z36, z37, z38, z39, z40, z41, z42, z43, z44, z45, z46] from G.val hok F h0 hall (x := .string A8) rfl (show 20 < 47 by decide) (Below.refl _ _) rfl)
      clear F hall h0
      refine wpOp_step (by rfl) (fun K' hK => ?_)
      have HKk := Lib.hid hK
      clear hK
      go_simp
      rw [if_neg (by first | omega | (simp only [ByteArray.size_append, ByteArray.size] <;> simp <;> omega))]
      go_simp
      rw [HA8.out]
      exact HKk.out _ _ ⟨z0, z1, z2, z3, z4, z5, z6, z7, z8, z9, z10, z11, z12, z13, z14, z15, z16, z17, (.string A7), (.string Z), .string A8, z21, z22, z23, z24, z25, z26, z27, z28, z29, z30, z31, z32, z33, z34, z35, z36, z37, z38, z39, z40, z41, z42, z43, z44, z45, z46, rfl, HF.out⟩
    | 21, _, h0, hall =>
      obtain rfl : z1 = .string A8 := F.fs 1 (hall 1 (by decide +kernel))
      obtain rfl : z20 = .string A8 := F.fs 20 (hall 20 (by decide +kernel))
      have HF := Lib.hid (show G _ _ _ _ _ [z0, (.string A8), z2, z3, z4, z5, z6, z7, z8, z9, z10, z11, z12, z13, z14, z15, z16, z17, z18, z19, (.string A8), .bool false, z22, z23, z24, z25, z26, z27, z28, z29, z30, z31, z32, z33, z34, z35, z36, z37, z38, z39, z40, z41, z42, z43, z44, z45, z46] from G.val hok F h0 hall (x := .bool false) rfl (show 21 < 47 by decide) (Below.refl _ _) rfl)
      clear F hall h0
      refine wpOp_step (by rfl) (fun K' hK => ?_)
      have HKk := Lib.hid hK
      clear hK
      go_simp
      exact HKk.out _ _ ⟨z0, (.string A8), z2, z3, z4, z5, z6, z7, z8, z9, z10, z11, z12, z13, z14, z15, z16, z17, z18, z19, (.string A8), .bool false, z22, z23, z24, z25, z26, z27, z28, z29, z30, z31, z32, z33, z34, z35, z36, z37, z38, z39, z40, z41, z42, z43, z44, z45, z46, rfl, HF.out⟩
    | 22, _, h0, hall =>
      obtain rfl : z21 = .bool false := F.fs 21 (hall 21 (by decide +kernel))
      have HF := Lib.hid (show G _ _ _ _ _ [z0, z1, z2, z3, z4, z5, z6, z7, z8, z9, z10, z11, z12, z13, z14, z15, z16, z17, z18, z19, z20, (.bool false), .bool false, z23, z24, z25, z26, z27, z28, z29, z30, z31, z32, z33, z34, z35, z36, z37, z38, z39, z40, z41, z42, z43, z44, z45, z46] from G.val hok F h0 hall (x := .bool false) rfl (show 22 < 47 by decide) (Below.refl _ _) rfl)
      clear F hall h0
      refine wpOp_step (by rfl) (fun K' hK => ?_)
      have HKk := Lib.hid hK
      clear hK
      go_simp
      exact HKk.out _ _ ⟨z0, z1, z2, z3, z4, z5, z6, z7, z8, z9, z10, z11, z12, z13, z14, z15, z16, z17, z18, z19, z20, (.bool false), .bool false, z23, z24, z25, z26, z27, z28, z29, z30, z31, z32, z33, z34, z35, z36, z37, z38, z39, z40, z41, z42, z43, z44, z45, z46, rfl, HF.out⟩
    | 23, _, h0, hall =>
      have x := HXR.out.below F.bel
      have x_0 : w'.cell? ⟨gR, 0, none⟩ = some (.int .i64 o) := x.cell 0
      have x_1 : w'.cell? ⟨gR, 1, none⟩ = some (.int .i64 0) := x.cell 1
      have x_2 : w'.cell? ⟨gR, 2, none⟩ = some (.string ⟨#[]⟩) := x.cell 2
      have x_3 : w'.cell? ⟨gR, 3, none⟩ = some (.slice (some ⟨q28, 0, none⟩) 2 2) := x.cell 3
      clear x
      obtain rfl : z22 = .bool false := F.fs 22 (hall 22 (by decide +kernel))
      have HF := Lib.hid (show G _ _ _ _ _ [z0, z1, z2, z3, z4, z5, z6, z7, z8, z9, z10, z11, z12, z13, z14, z15, z16, z17, z18, z19, z20, z21, (.bool false), .agg #[.int .i64 o, .int .i64 0, .string ⟨#[]⟩, .slice (some ⟨q28, 0, none⟩) 2 2], z24, z25, z26, z27, z28, z29, z30, z31, z32, z33, z34, z35, z36, z37, z38, z39, z40, z41, z42, z43, z44, z45, z46] from G.val hok F h0 hall (x := .agg #[.int .i64 o, .int .i64 0, .string ⟨#[]⟩, .slice (some ⟨q28, 0, none⟩) 2 2]) rfl (show 23 < 47 by decide) (Below.refl _ _) rfl)
      clear F hall h0
      refine wpOp_step (by rfl) (fun K' hK => ?_)
      have HKk := Lib.hid hK
      clear hK
      go_simp
      exact HKk.out _ _ ⟨z0, z1, z2, z3, z4, z5, z6, z7, z8, z9, z10, z11, z12, z13, z14, z15, z16, z17, z18, z19, z20, z21, (.bool false), .agg #[.int .i64 o, .int .i64 0, .string ⟨#[]⟩, .slice (some ⟨q28, 0, none⟩) 2 2], z24, z25, z26, z27, z28, z29, z30, z31, z32, z33, z34, z35, z36, z37, z38, z39, z40, z41, z42, z43, z44, z45, z46, rfl, HF.out⟩
    | 24, _, h0, hall =>
      obtain rfl : z22 = .bool false := F.fs 22 (hall 22 (by decide +kernel))
      obtain rfl : z23 = .agg #[.int .i64 o, .int .i64 0, .string ⟨#[]⟩, .slice (some ⟨q28, 0, none⟩) 2 2] := F.fs 23 (hall 23 (by decide +kernel))
      have HC := Lib.hid (oexpr_any (b2 o ta (b2 o tb tc)) (some ⟨q28, 0, none⟩) 2 (ok_bi o HO1.out HO2.out HOta.out (ok_bi o HO1.out HO2.out HOtb.out HOtc.out)) w' (HT.out.below F.bel) (HKR.out.below F.bel))
      rw [S2.out] at HC
      have HF := Lib.hid (fun w2 (hb : Below w'.heap.size w' w2) => show G _ _ _ _ w2 [z0, z1, z2, z3, z4, z5, z6, z7, z8, z9, z10, z11, z12, z13, z14, z15, z16, z17, z18, z19, z20, z21, (.bool false), (.agg #[.int .i64 o, .int .i64 0, .string ⟨#[]⟩, .slice (some ⟨q28, 0, none⟩) 2 2]), .string B9, z25, z26, z27, z28, z29, z30, z31, z32, z33, z34, z35, z36, z37, z38, z39, z40, z41, z42, z43, z44, z45, z46] from G.val hok F h0 hall (x := .string B9) rfl (show 24 < 47 by decide) hb rfl)
      clear F hall h0
      refine wpOp_step (by rfl) (fun K' hK => ?_)
      have HKk := Lib.hid hK
      clear hK
      go_simp
      refine HC.out.mono ?_
      rintro er w2 ⟨rfl, hb⟩
      replace HF := Lib.hid (HF.out w2 hb)
      exact HKk.out _ _ ⟨z0, z1, z2, z3, z4, z5, z6, z7, z8, z9, z10, z11, z12, z13, z14, z15, z16, z17, z18, z19, z20, z21, (.bool false), (.agg #[.int .i64 o, .int .i64 0, .string ⟨#[]⟩, .slice (some ⟨q28, 0, none⟩) 2 2]), .string B9, z25, z26, z27, z28, z29, z30, z31, z32, z33, z34, z35, z36, z37, z38, z39, z40, z41, z42, z43, z44, z45, z46, rfl, HF.out⟩
    | 25, _, h0, hall =>
      obtain rfl : z22 = .bool false := F.fs 22 (hall 22 (by decide +kernel))
      have HF := Lib.hid (show G _ _ _ _ _ [z0, z1, z2, z3, z4, z5, z6, z7, z8, z9, z10, z11, z12, z13, z14, z15, z16, z17, z18, z19, z20, z21, (.bool false), z23, z24, .string X, z26, z27, z28, z29, z30, z31, z32, z33, z34, z35, z36, z37, z38, z39, z40, z41, z42, z43, z44, z45, z46] from G.val hok F h0 hall (x := .string X) rfl (show 25 < 47 by decide) (Below.refl _ _) rfl)
      clear F hall h0
      refine wpOp_step (by rfl) (fun K' hK => ?_)
      have HKk := Lib.hid hK
      clear hK
      go_simp
      exact HKk.out _ _ ⟨z0, z1, z2, z3, z4, z5, z6, z7, z8, z9, z10, z11, z12, z13, z14, z15, z16, z17, z18, z19, z20, z21, (.bool false), z23, z24, .string X, z26, z27, z28, z29, z30, z31, z32, z33, z34, z35, z36, z37, z38, z39, z40, z41, z42, z43, z44, z45, z46, rfl, HF.out⟩
    | 26, _, h0, hall =>
      obtain rfl : z25 = .string X := F.fs 25 (hall 25 (by decide +kernel))
      obtain rfl : z22 = .bool false := F.fs 22 (hall 22 (by decide +kernel))
      have HF := Lib.hid (show G _ _ _ _ _ [z0, z1, z2, z3, z4, z5, z6, z7, z8, z9, z10, z11, z12, z13, z14, z15, z16, z17, z18, z19, z20, z21, (.bool false), z23, z24, (.string X), .string A1, z27, z28, z29, z30, z31, z32, z33, z34, z35, z36, z37, z38, z39, z40, z41, z42, z43, z44, z45, z46] from G.val hok F h0 hall (x := .string A1) rfl (show 26 < 47 by decide) (Below.refl _ _) rfl)
      clear F hall h0
      refine wpOp_step (by rfl) (fun K' hK => ?_)
      have HKk := Lib.hid hK
      clear hK
      go_simp
      rw [if_neg (by first | omega | (simp only [ByteArray.size_append, ByteArray.size] <;> simp <;> omega))]
      go_simp
      rw [HA1.out]
      exact HKk.out _ _ ⟨z0, z1, z2, z3, z4, z5, z6, z7, z8, z9, z10, z11, z12, z13, z14, z15, z16, z17, z18, z19, z20, z21, (.bool false), z23, z24, (.string X), .string A1, z27, z28, z29, z30, z31, z32, z33, z34, z35, z36, z37, z38, z39, z40, z41, z42, z43, z44, z45, z46, rfl, HF.out⟩
    | 27, _, h0, hall =>
      obtain rfl : z22 = .bool false := F.fs 22 (hall 22 (by decide +kernel))
      have HF := Lib.hid (show G _ _ _ _ _ [z0, z1, z2, z3, z4, z5, z6, z7, z8, z9, z10, z11, z12, z13, z14, z15, z16, z17, z18, z19, z20, z21, (.bool false), z23, z24, z25, z26, .slice (some ⟨pS, 0, none⟩) 8 8, z28, z29, z30, z31, z32, z33, z34, z35, z36, z37, z38, z39, z40, z41, z42, z43, z44, z45, z46] from G.val hok F h0 hall (x := .slice (some ⟨pS, 0, none⟩) 8 8) rfl (show 27 < 47 by decide) (Below.refl _ _) rfl)
      clear F hall h0
      refine wpOp_step (by rfl) (fun K' hK => ?_)
      have HKk := Lib.hid hK
      clear hK
      go_simp
      exact HKk.out _ _ ⟨z0, z1, z2, z3, z4, z5, z6, z7, z8, z9, z10, z11, z12, z13, z14, z15, z16, z17, z18, z19, z20, z21, (.bool false), z23, z24, z25, z26, .slice (some ⟨pS, 0, none⟩) 8 8, z28, z29, z30, z31, z32, z33, z34, z35, z36, z37, z38, z39, z40, z41, z42, z43, z44, z45, z46, rfl, HF.out⟩
    | 28, _, h0, hall =>
      obtain rfl : z22 = .bool false := F.fs 22 (hall 22 (by decide +kernel))
      have HF := Lib.hid (show G _ _ _ _ _ [z0, z1, z2, z3, z4, z5, z6, z7, z8, z9, z10, z11, z12, z13, z14, z15, z16, z17, z18, z19, z20, z21, (.bool false), z23, z24, z25, z26, z27, .int .i64 ↑k, z29, z30, z31, z32, z33, z34, z35, z36, z37, z38, z39, z40, z41, z42, z43, z44, z45, z46] from G.val hok F h0 hall (x := .int .i64 ↑k) rfl (show 28 < 47 by decide) (Below.refl _ _) rfl)
      clear F hall h0
      refine wpOp_step (by rfl) (fun K' hK => ?_)
      have HKk := Lib.hid hK
      clear hK
      go_simp
      exact HKk.out _ _ ⟨z0, z1, z2, z3, z4, z5, z6, z7, z8, z9, z10, z11, z12, z13, z14, z15, z16, z17, z18, z19, z20, z21, (.bool false), z23, z24, z25, z26, z27, .int .i64 ↑k, z29, z30, z31, z32, z33, z34, z35, z36, z37, z38, z39, z40, z41, z42, z43, z44, z45, z46, rfl, HF.out⟩
    | 29, _, h0, hall =>
      obtain rfl : z27 = .slice (some ⟨pS, 0, none⟩) 8 8 := F.fs 27 (hall 27 (by decide +kernel))
      obtain rfl : z28 = .int .i64 ↑k := F.fs 28 (hall 28 (by decide +kernel))
      obtain rfl : z22 = .bool false := F.fs 22 (hall 22 (by decide +kernel))
      have HF := Lib.hid (show G _ _ _ _ _ [z0, z1, z2, z3, z4, z5, z6, z7, z8, z9, z10, z11, z12, z13, z14, z15, z16, z17, z18, z19, z20, z21, (.bool false), z23, z24, z25, z26, (.slice (some ⟨pS, 0, none⟩) 8 8), (.int .i64 ↑k), .pointer (some ⟨pS, k, none⟩), z30, z31, z32, z33, z34, z35, z36, z37, z38, z39, z40, z41, z42, z43, z44, z45, z46] from G.val hok F h0 hall (x := .pointer (some ⟨pS, k, none⟩)) rfl (show 29 < 47 by decide) (Below.refl _ _) rfl)
      clear F hall h0
      refine wpOp_step (by rfl) (fun K' hK => ?_)
      have HKk := Lib.hid hK
      clear hK
      go_simp
      exact HKk.out _ _ ⟨z0, z1, z2, z3, z4, z5, z6, z7, z8, z9, z10, z11, z12, z13, z14, z15, z16, z17, z18, z19, z20, z21, (.bool false), z23, z24, z25, z26, (.slice (some ⟨pS, 0, none⟩) 8 8), (.int .i64 ↑k), .pointer (some ⟨pS, k, none⟩), z30, z31, z32, z33, z34, z35, z36, z37, z38, z39, z40, z41, z42, z43, z44, z45, z46, rfl, HF.out⟩
    | 30, _, h0, hall =>
      obtain rfl : z29 = .pointer (some ⟨pS, k, none⟩) := F.fs 29 (hall 29 (by decide +kernel))
      have x_0 := HS.out _ F.bel
      obtain rfl : z22 = .bool false := F.fs 22 (hall 22 (by decide +kernel))
      have HF := Lib.hid (show G _ _ _ _ _ [z0, z1, z2, z3, z4, z5, z6, z7, z8, z9, z10, z11, z12, z13, z14, z15, z16, z17, z18, z19, z20, z21, (.bool false), z23, z24, z25, z26, z27, z28, (.pointer (some ⟨pS, k, none⟩)), .string s, z31, z32, z33, z34, z35, z36, z37, z38, z39, z40, z41, z42, z43, z44, z45, z46] from G.val hok F h0 hall (x := .string s) rfl (show 30 < 47 by decide) (Below.refl _ _) rfl)
      clear F hall h0
      refine wpOp_step (by rfl) (fun K' hK => ?_)
      have HKk := Lib.hid hK
      clear hK
      go_simp
      exact HKk.out _ _ ⟨z0, z1, z2, z3, z4, z5, z6, z7, z8, z9, z10, z11, z12, z13, z14, z15, z16, z17, z18, z19, z20, z21, (.bool false), z23, z24, z25, z26, z27, z28, (.pointer (some ⟨pS, k, none⟩)), .string s, z31, z32, z33, z34, z35, z36, z37, z38, z39, z40, z41, z42, z43, z44, z45, z46, rfl, HF.out⟩
    | 31, _, h0, hall =>
      obtain rfl : z26 = .string A1 := F.fs 26 (hall 26 (by decide +kernel))
      obtain rfl : z30 = .string s := F.fs 30 (hall 30 (by decide +kernel))
      obtain rfl : z22 = .bool false := F.fs 22 (hall 22 (by decide +kernel))
      have HF := Lib.hid (show G _ _ _ _ _ [z0, z1, z2, z3, z4, z5, z6, z7, z8, z9, z10, z11, z12, z13, z14, z15, z16, z17, z18, z19, z20, z21, (.bool false), z23, z24, z25, (.string A1), z27, z28, z29, (.string s), .string A2, z32, z33, z34, z35, z36, z37, z38, z39, z40, z41, z42, z43, z44, z45, z46] from G.val hok F h0 hall (x := .string A2) rfl (show 31 < 47 by decide) (Below.refl _ _) rfl)
      clear F hall h0
      refine wpOp_step (by rfl) (fun K' hK => ?_)
      have HKk := Lib.hid hK
      clear hK
      go_simp
      rw [if_neg (by first | omega | (simp only [ByteArray.size_append, ByteArray.size] <;> simp <;> omega))]
      go_simp
      rw [HA2.out]
      exact HKk.out _ _ ⟨z0, z1, z2, z3, z4, z5, z6, z7, z8, z9, z10, z11, z12, z13, z14, z15, z16, z17, z18, z19, z20, z21, (.bool false), z23, z24, z25, (.string A1), z27, z28, z29, (.string s), .string A2, z32, z33, z34, z35, z36, z37, z38, z39, z40, z41, z42, z43, z44, z45, z46, rfl, HF.out⟩
    | 32, _, h0, hall =>
      obtain rfl : z31 = .string A2 := F.fs 31 (hall 31 (by decide +kernel))
      obtain rfl : z22 = .bool false := F.fs 22 (hall 22 (by decide +kernel))
      have HF := Lib.hid (show G _ _ _ _ _ [z0, z1, z2, z3, z4, z5, z6, z7, z8, z9, z10, z11, z12, z13, z14, z15, z16, z17, z18, z19, z20, z21, (.bool false), z23, z24, z25, z26, z27, z28, z29, z30, (.string A2), .string B3, z33, z34, z35, z36, z37, z38, z39, z40, z41, z42, z43, z44, z45, z46] from G.val hok F h0 hall (x := .string B3) rfl (show 32 < 47 by decide) (Below.refl _ _) rfl)
      clear F hall h0
      refine wpOp_step (by rfl) (fun K' hK => ?_)
      have HKk := Lib.hid hK
      clear hK
      go_simp
      rw [if_neg (by first | omega | (simp only [ByteArray.size_append, ByteArray.size] <;> simp <;> omega))]
      go_simp
      rw [HB3.out]
      exact HKk.out _ _ ⟨z0, z1, z2, z3, z4, z5, z6, z7, z8, z9, z10, z11, z12, z13, z14, z15, z16, z17, z18, z19, z20, z21, (.bool false), z23, z24, z25, z26, z27, z28, z29, z30, (.string A2), .string B3, z33, z34, z35, z36, z37, z38, z39, z40, z41, z42, z43, z44, z45, z46, rfl, HF.out⟩
    | 33, _, h0, hall =>
      obtain rfl : z22 = .bool false := F.fs 22 (hall 22 (by decide +kernel))
      have HF := Lib.hid (show G _ _ _ _ _ [z0, z1, z2, z3, z4, z5, z6, z7, z8, z9, z10, z11, z12, z13, z14, z15, z16, z17, z18, z19, z20, z21, (.bool false), z23, z24, z25, z26, z27, z28, z29, z30, z31, z32, .string Y, z34, z35, z36, z37, z38, z39, z40, z41, z42, z43, z44, z45, z46] from G.val hok F h0 hall (x := .string Y) rfl (show 33 < 47 by decide) (Below.refl _ _) rfl)
      clear F hall h0
      refine wpOp_step (by rfl) (fun K' hK => ?_)
      have HKk := Lib.hid hK
      clear hK
      go_simp
      exact HKk.out _ _ ⟨z0, z1, z2, z3, z4, z5, z6, z7, z8, z9, z10, z11, z12, z13, z14, z15, z16, z17, z18, z19, z20, z21, (.bool false), z23, z24, z25, z26, z27, z28, z29, z30, z31, z32, .string Y, z34, z35, z36, z37, z38, z39, z40, z41, z42, z43, z44, z45, z46, rfl, HF.out⟩
    | 34, _, h0, hall =>
      obtain rfl : z32 = .string B3 := F.fs 32 (hall 32 (by decide +kernel))
      obtain rfl : z33 = .string Y := F.fs 33 (hall 33 (by decide +kernel))
      obtain rfl : z22 = .bool false := F.fs 22 (hall 22 (by decide +kernel))
      have HF := Lib.hid (show G _ _ _ _ _ [z0, z1, z2, z3, z4, z5, z6, z7, z8, z9, z10, z11, z12, z13, z14, z15, z16, z17, z18, z19, z20, z21, (.bool false), z23, z24, z25, z26, z27, z28, z29, z30, z31, (.string B3), (.string Y), .string B4, z35, z36, z37, z38, z39, z40, z41, z42, z43, z44, z45, z46] from G.val hok F h0 hall (x := .string B4) rfl (show 34 < 47 by decide) (Below.refl _ _) rfl)
      clear F hall h0
      refine wpOp_step (by rfl) (fun K' hK => ?_)
      have HKk := Lib.hid hK
      clear hK
      go_simp
      rw [if_neg (by first | omega | (simp only [ByteArray.size_append, ByteArray.size] <;> simp <;> omega))]
      go_simp
      rw [HB4.out]
      exact HKk.out _ _ ⟨z0, z1, z2, z3, z4, z5, z6, z7, z8, z9, z10, z11, z12, z13, z14, z15, z16, z17, z18, z19, z20, z21, (.bool false), z23, z24, z25, z26, z27, z28, z29, z30, z31, (.string B3), (.string Y), .string B4, z35, z36, z37, z38, z39, z40, z41, z42, z43, z44, z45, z46, rfl, HF.out⟩
    | 35, _, h0, hall =>
      obtain rfl : z34 = .string B4 := F.fs 34 (hall 34 (by decide +kernel))
      obtain rfl : z22 = .bool false := F.fs 22 (hall 22 (by decide +kernel))
      have HF := Lib.hid (show G _ _ _ _ _ [z0, z1, z2, z3, z4, z5, z6, z7, z8, z9, z10, z11, z12, z13, z14, z15, z16, z17, z18, z19, z20, z21, (.bool false), z23, z24, z25, z26, z27, z28, z29, z30, z31, z32, z33, (.string B4), .string B5, z36, z37, z38, z39, z40, z41, z42, z43, z44, z45, z46] from G.val hok F h0 hall (x := .string B5) rfl (show 35 < 47 by decide) (Below.refl _ _) rfl)
      clear F hall h0
      refine wpOp_step (by rfl) (fun K' hK => ?_)
      have HKk := Lib.hid hK
      clear hK
      go_simp
      rw [if_neg (by first | omega | (simp only [ByteArray.size_append, ByteArray.size] <;> simp <;> omega))]
      go_simp
      rw [HB5.out]
      exact HKk.out _ _ ⟨z0, z1, z2, z3, z4, z5, z6, z7, z8, z9, z10, z11, z12, z13, z14, z15, z16, z17, z18, z19, z20, z21, (.bool false), z23, z24, z25, z26, z27, z28, z29, z30, z31, z32, z33, (.string B4), .string B5, z36, z37, z38, z39, z40, z41, z42, z43, z44, z45, z46, rfl, HF.out⟩
    | 36, _, h0, hall =>
      obtain rfl : z22 = .bool false := F.fs 22 (hall 22 (by decide +kernel))
      have HF := Lib.hid (show G _ _ _ _ _ [z0, z1, z2, z3, z4, z5, z6, z7, z8, z9, z10, z11, z12, z13, z14, z15, z16, z17, z18, z19, z20, z21, (.bool false), z23, z24, z25, z26, z27, z28, z29, z30, z31, z32, z33, z34, z35, .slice (some ⟨pS, 0, none⟩) 8 8, z37, z38, z39, z40, z41, z42, z43, z44, z45, z46] from G.val hok F h0 hall (x := .slice (some ⟨pS, 0, none⟩) 8 8) rfl (show 36 < 47 by decide) (Below.refl _ _) rfl)
      clear F hall h0
      refine wpOp_step (by rfl) (fun K' hK => ?_)
      have HKk := Lib.hid hK
      clear hK
      go_simp
      exact HKk.out _ _ ⟨z0, z1, z2, z3, z4, z5, z6, z7, z8, z9, z10, z11, z12, z13, z14, z15, z16, z17, z18, z19, z20, z21, (.bool false), z23, z24, z25, z26, z27, z28, z29, z30, z31, z32, z33, z34, z35, .slice (some ⟨pS, 0, none⟩) 8 8, z37, z38, z39, z40, z41, z42, z43, z44, z45, z46, rfl, HF.out⟩
    | 37, _, h0, hall =>
      obtain rfl : z22 = .bool false := F.fs 22 (hall 22 (by decide +kernel))
      have HF := Lib.hid (show G _ _ _ _ _ [z0, z1, z2, z3, z4, z5, z6, z7, z8, z9, z10, z11, z12, z13, z14, z15, z16, z17, z18, z19, z20, z21, (.bool false), z23, z24, z25, z26, z27, z28, z29, z30, z31, z32, z33, z34, z35, z36, .int .i64 ↑k, z38, z39, z40, z41, z42, z43, z44, z45, z46] from G.val hok F h0 hall (x := .int .i64 ↑k) rfl (show 37 < 47 by decide) (Below.refl _ _) rfl)
      clear F hall h0
      refine wpOp_step (by rfl) (fun K' hK => ?_)
      have HKk := Lib.hid hK
      clear hK
      go_simp
      exact HKk.out _ _ ⟨z0, z1, z2, z3, z4, z5, z6, z7, z8, z9, z10, z11, z12, z13, z14, z15, z16, z17, z18, z19, z20, z21, (.bool false), z23, z24, z25, z26, z27, z28, z29, z30, z31, z32, z33, z34, z35, z36, .int .i64 ↑k, z38, z39, z40, z41, z42, z43, z44, z45, z46, rfl, HF.out⟩
    | 38, _, h0, hall =>
      obtain rfl : z36 = .slice (some ⟨pS, 0, none⟩) 8 8 := F.fs 36 (hall 36 (by decide +kernel))
      obtain rfl : z37 = .int .i64 ↑k := F.fs 37 (hall 37 (by decide +kernel))
      obtain rfl : z22 = .bool false := F.fs 22 (hall 22 (by decide +kernel))
      have HF := Lib.hid (show G _ _ _ _ _ [z0, z1, z2, z3, z4, z5, z6, z7, z8, z9, z10, z11, z12, z13, z14, z15, z16, z17, z18, z19, z20, z21, (.bool false), z23, z24, z25, z26, z27, z28, z29, z30, z31, z32, z33, z34, z35, (.slice (some ⟨pS, 0, none⟩) 8 8), (.int .i64 ↑k), .pointer (some ⟨pS, k, none⟩), z39, z40, z41, z42, z43, z44, z45, z46] from G.val hok F h0 hall (x := .pointer (some ⟨pS, k, none⟩)) rfl (show 38 < 47 by decide) (Below.refl _ _) rfl)
      clear F hall h0
      refine wpOp_step (by rfl) (fun K' hK => ?_)
      have HKk := Lib.hid hK
      clear hK
      go_simp
      exact HKk.out _ _ ⟨z0, z1, z2, z3, z4, z5, z6, z7, z8, z9, z10, z11, z12, z13, z14, z15, z16, z17, z18, z19, z20, z21, (.bool false), z23, z24, z25, z26, z27, z28, z29, z30, z31, z32, z33, z34, z35, (.slice (some ⟨pS, 0, none⟩) 8 8), (.int .i64 ↑k), .pointer (some ⟨pS, k, none⟩), z39, z40, z41, z42, z43, z44, z45, z46, rfl, HF.out⟩
    | 39, _, h0, hall =>
      obtain rfl : z38 = .pointer (some ⟨pS, k, none⟩) := F.fs 38 (hall 38 (by decide +kernel))
      have x_0 := HS.out _ F.bel
      obtain rfl : z22 = .bool false := F.fs 22 (hall 22 (by decide +kernel))
      have HF := Lib.hid (show G _ _ _ _ _ [z0, z1, z2, z3, z4, z5, z6, z7, z8, z9, z10, z11, z12, z13, z14, z15, z16, z17, z18, z19, z20, z21, (.bool false), z23, z24, z25, z26, z27, z28, z29, z30, z31, z32, z33, z34, z35, z36, z37, (.pointer (some ⟨pS, k, none⟩)), .string s, z40, z41, z42, z43, z44, z45, z46] from G.val hok F h0 hall (x := .string s) rfl (show 39 < 47 by decide) (Below.refl _ _) rfl)
      clear F hall h0
      refine wpOp_step (by rfl) (fun K' hK => ?_)
      have HKk := Lib.hid hK
      clear hK
      go_simp
      exact HKk.out _ _ ⟨z0, z1, z2, z3, z4, z5, z6, z7, z8, z9, z10, z11, z12, z13, z14, z15, z16, z17, z18, z19, z20, z21, (.bool false), z23, z24, z25, z26, z27, z28, z29, z30, z31, z32, z33, z34, z35, z36, z37, (.pointer (some ⟨pS, k, none⟩)), .string s, z40, z41, z42, z43, z44, z45, z46, rfl, HF.out⟩
    | 40, _, h0, hall =>
      obtain rfl : z35 = .string B5 := F.fs 35 (hall 35 (by decide +kernel))
      obtain rfl : z39 = .string s := F.fs 39 (hall 39 (by decide +kernel))
      obtain rfl : z22 = .bool false := F.fs 22 (hall 22 (by decide +kernel))
      have HF := Lib.hid (show G _ _ _ _ _ [z0, z1, z2, z3, z4, z5, z6, z7, z8, z9, z10, z11, z12, z13, z14, z15, z16, z17, z18, z19, z20, z21, (.bool false), z23, z24, z25, z26, z27, z28, z29, z30, z31, z32, z33, z34, (.string B5), z36, z37, z38, (.string s), .string B6, z41, z42, z43, z44, z45, z46] from G.val hok F h0 hall (x := .string B6) rfl (show 40 < 47 by decide) (Below.refl _ _) rfl)
      clear F hall h0
      refine wpOp_step (by rfl) (fun K' hK => ?_)
      have HKk := Lib.hid hK
      clear hK
      go_simp
      rw [if_neg (by first | omega | (simp only [ByteArray.size_append, ByteArray.size] <;> simp <;> omega))]
      go_simp
      rw [HB6.out]
      exact HKk.out _ _ ⟨z0, z1, z2, z3, z4, z5, z6, z7, z8, z9, z10, z11, z12, z13, z14, z15, z16, z17, z18, z19, z20, z21, (.bool false), z23, z24, z25, z26, z27, z28, z29, z30, z31, z32, z33, z34, (.string B5), z36, z37, z38, (.string s), .string B6, z41, z42, z43, z44, z45, z46, rfl, HF.out⟩
    | 41, _, h0, hall =>
      obtain rfl : z40 = .string B6 := F.fs 40 (hall 40 (by decide +kernel))
      obtain rfl : z22 = .bool false := F.fs 22 (hall 22 (by decide +kernel))
      have HF := Lib.hid (show G _ _ _ _ _ [z0, z1, z2, z3, z4, z5, z6, z7, z8, z9, z10, z11, z12, z13, z14, z15, z16, z17, z18, z19, z20, z21, (.bool false), z23, z24, z25, z26, z27, z28, z29, z30, z31, z32, z33, z34, z35, z36, z37, z38, z39, (.string B6), .string B7, z42, z43, z44, z45, z46] from G.val hok F h0 hall (x := .string B7) rfl (show 41 < 47 by decide) (Below.refl _ _) rfl)
      clear F hall h0
      refine wpOp_step (by rfl) (fun K' hK => ?_)
      have HKk := Lib.hid hK
      clear hK
      go_simp
      rw [if_neg (by first | omega | (simp only [ByteArray.size_append, ByteArray.size] <;> simp <;> omega))]
      go_simp
      rw [HB7.out]
      exact HKk.out _ _ ⟨z0, z1, z2, z3, z4, z5, z6, z7, z8, z9, z10, z11, z12, z13, z14, z15, z16, z17, z18, z19, z20, z21, (.bool false), z23, z24, z25, z26, z27, z28, z29, z30, z31, z32, z33, z34, z35, z36, z37, z38, z39, (.string B6), .string B7, z42, z43, z44, z45, z46, rfl, HF.out⟩
    | 42, _, h0, hall =>
      obtain rfl : z22 = .bool false := F.fs 22 (hall 22 (by decide +kernel))
      have HF := Lib.hid (show G _ _ _ _ _ [z0, z1, z2, z3, z4, z5, z6, z7, z8, z9, z10, z11, z12, z13, z14, z15, z16, z17, z18, z19, z20, z21, (.bool false), z23, z24, z25, z26, z27, z28, z29, z30, z31, z32, z33, z34, z35, z36, z37, z38, z39, z40, z41, .string Z, z43, z44, z45, z46] from G.val hok F h0 hall (x := .string Z) rfl (show 42 < 47 by decide) (Below.refl _ _) rfl)
      clear F hall h0
      refine wpOp_step (by rfl) (fun K' hK => ?_)
      have HKk := Lib.hid hK
      clear hK
      go_simp
      exact HKk.out _ _ ⟨z0, z1, z2, z3, z4, z5, z6, z7, z8, z9, z10, z11, z12, z13, z14, z15, z16, z17, z18, z19, z20, z21, (.bool false), z23, z24, z25, z26, z27, z28, z29, z30, z31, z32, z33, z34, z35, z36, z37, z38, z39, z40, z41, .string Z, z43, z44, z45, z46, rfl, HF.out⟩
    | 43, _, h0, hall =>
      obtain rfl : z41 = .string B7 := F.fs 41 (hall 41 (by decide +kernel))
      obtain rfl : z42 = .string Z := F.fs 42 (hall 42 (by decide +kernel))
      obtain rfl : z22 = .bool false := F.fs 22 (hall 22 (by decide +kernel))
      have HF := Lib.hid (show G _ _ _ _ _ [z0, z1, z2, z3, z4, z5, z6, z7, z8, z9, z10, z11, z12, z13, z14, z15, z16, z17, z18, z19, z20, z21, (.bool false), z23, z24, z25, z26, z27, z28, z29, z30, z31, z32, z33, z34, z35, z36, z37, z38, z39, z40, (.string B7), (.string Z), .string B8, z44, z45, z46] from G.val hok F h0 hall (x := .string B8) rfl (show 43 < 47 by decide) (Below.refl _ _) rfl)
      clear F hall h0
      refine wpOp_step (by rfl) (fun K' hK => ?_)
      have HKk := Lib.hid hK
      clear hK
      go_simp
      rw [if_neg (by first | omega | (simp only [ByteArray.size_append, ByteArray.size] <;> simp <;> omega))]
      go_simp
      rw [HB8.out]
      exact HKk.out _ _ ⟨z0, z1, z2, z3, z4, z5, z6, z7, z8, z9, z10, z11, z12, z13, z14, z15, z16, z17, z18, z19, z20, z21, (.bool false), z23, z24, z25, z26, z27, z28, z29, z30, z31, z32, z33, z34, z35, z36, z37, z38, z39, z40, (.string B7), (.string Z), .string B8, z44, z45, z46, rfl, HF.out⟩
    | 44, _, h0, hall =>
      obtain rfl : z43 = .string B8 := F.fs 43 (hall 43 (by decide +kernel))
      obtain rfl : z22 = .bool false := F.fs 22 (hall 22 (by decide +kernel))
      have HF := Lib.hid (show G _ _ _ _ _ [z0, z1, z2, z3, z4, z5, z6, z7, z8, z9, z10, z11, z12, z13, z14, z15, z16, z17, z18, z19, z20, z21, (.bool false), z23, z24, z25, z26, z27, z28, z29, z30, z31, z32, z33, z34, z35, z36, z37, z38, z39, z40, z41, z42, (.string B8), .string B9, z45, z46] from G.val hok F h0 hall (x := .string B9) rfl (show 44 < 47 by decide) (Below.refl _ _) rfl)
      clear F hall h0
      refine wpOp_step (by rfl) (fun K' hK => ?_)
      have HKk := Lib.hid hK
      clear hK
      go_simp
      rw [if_neg (by first | omega | (simp only [ByteArray.size_append, ByteArray.size] <;> simp <;> omega))]
      go_simp
      rw [HB9.out]
      exact HKk.out _ _ ⟨z0, z1, z2, z3, z4, z5, z6, z7, z8, z9, z10, z11, z12, z13, z14, z15, z16, z17, z18, z19, z20, z21, (.bool false), z23, z24, z25, z26, z27, z28, z29, z30, z31, z32, z33, z34, z35, z36, z37, z38, z39, z40, z41, z42, (.string B8), .string B9, z45, z46, rfl, HF.out⟩
    | 45, _, h0, hall =>
      obtain rfl : z24 = .string B9 := F.fs 24 (hall 24 (by decide +kernel))
      obtain rfl : z44 = .string B9 := F.fs 44 (hall 44 (by decide +kernel))
      obtain rfl : z22 = .bool false := F.fs 22 (hall 22 (by decide +kernel))
      have HF := Lib.hid (show G _ _ _ _ _ [z0, z1, z2, z3, z4, z5, z6, z7, z8, z9, z10, z11, z12, z13, z14, z15, z16, z17, z18, z19, z20, z21, (.bool false), z23, (.string B9), z25, z26, z27, z28, z29, z30, z31, z32, z33, z34, z35, z36, z37, z38, z39, z40, z41, z42, z43, (.string B9), .bool false, z46] from G.val hok F h0 hall (x := .bool false) rfl (show 45 < 47 by decide) (Below.refl _ _) rfl)
      clear F hall h0
      refine wpOp_step (by rfl) (fun K' hK => ?_)
      have HKk := Lib.hid hK
      clear hK
      go_simp
      exact HKk.out _ _ ⟨z0, z1, z2, z3, z4, z5, z6, z7, z8, z9, z10, z11, z12, z13, z14, z15, z16, z17, z18, z19, z20, z21, (.bool false), z23, (.string B9), z25, z26, z27, z28, z29, z30, z31, z32, z33, z34, z35, z36, z37, z38, z39, z40, z41, z42, z43, (.string B9), .bool false, z46, rfl, HF.out⟩
    | 46, _, h0, hall =>
      obtain rfl : z22 = .bool false := F.fs 22 (hall 22 (by decide +kernel))
      obtain rfl : z45 = .bool false := F.fs 45 (hall 45 (by decide +kernel))
      have HF := Lib.hid (show G _ _ _ _ _ [z0, z1, z2, z3, z4, z5, z6, z7, z8, z9, z10, z11, z12, z13, z14, z15, z16, z17, z18, z19, z20, z21, (.bool false), z23, z24, z25, z26, z27, z28, z29, z30, z31, z32, z33, z34, z35, z36, z37, z38, z39, z40, z41, z42, z43, z44, (.bool false), .bool false] from G.val hok F h0 hall (x := .bool false) rfl (show 46 < 47 by decide) (Below.refl _ _) rfl)
      clear F hall h0
      refine wpOp_step (by rfl) (fun K' hK => ?_)
      have HKk := Lib.hid hK
      clear hK
      go_simp
      exact HKk.out _ _ ⟨z0, z1, z2, z3, z4, z5, z6, z7, z8, z9, z10, z11, z12, z13, z14, z15, z16, z17, z18, z19, z20, z21, (.bool false), z23, z24, z25, z26, z27, z28, z29, z30, z31, z32, z33, z34, z35, z36, z37, z38, z39, z40, z41, z42, z43, z44, (.bool false), .bool false, rfl, HF.out⟩
    | i + 47, hi, _, _ => exact absurd hi (by show ¬ (i + 47 < 47); omega)
  intro l2 a2 wf hI hall
  obtain ⟨z0, hI⟩ := hI
  obtain ⟨z1, hI⟩ := hI
  obtain ⟨z2, hI⟩ := hI
  obtain ⟨z3, hI⟩ := hI
  obtain ⟨z4, hI⟩ := hI
  obtain ⟨z5, hI⟩ := hI
  obtain ⟨z6, hI⟩ := hI
  obtain ⟨z7, hI⟩ := hI
  obtain ⟨z8, hI⟩ := hI
  obtain ⟨z9, hI⟩ := hI
  obtain ⟨z10, hI⟩ := hI
  obtain ⟨z11, hI⟩ := hI
  obtain ⟨z12, hI⟩ := hI
  obtain ⟨z13, hI⟩ := hI
  obtain ⟨z14, hI⟩ := hI
  obtain ⟨z15, hI⟩ := hI
  obtain ⟨z16, hI⟩ := hI
  obtain ⟨z17, hI⟩ := hI
  obtain ⟨z18, hI⟩ := hI
  obtain ⟨z19, hI⟩ := hI
  obtain ⟨z20, hI⟩ := hI
  obtain ⟨z21, hI⟩ := hI
  obtain ⟨z22, hI⟩ := hI
  obtain ⟨z23, hI⟩ := hI
  obtain ⟨z24, hI⟩ := hI
  obtain ⟨z25, hI⟩ := hI
  obtain ⟨z26, hI⟩ := hI
  obtain ⟨z27, hI⟩ := hI
  obtain ⟨z28, hI⟩ := hI
  obtain ⟨z29, hI⟩ := hI
  obtain ⟨z30, hI⟩ := hI
  obtain ⟨z31, hI⟩ := hI
  obtain ⟨z32, hI⟩ := hI
  obtain ⟨z33, hI⟩ := hI
  obtain ⟨z34, hI⟩ := hI
  obtain ⟨z35, hI⟩ := hI
  obtain ⟨z36, hI⟩ := hI
  obtain ⟨z37, hI⟩ := hI
  obtain ⟨z38, hI⟩ := hI
  obtain ⟨z39, hI⟩ := hI
  obtain ⟨z40, hI⟩ := hI
  obtain ⟨z41, hI⟩ := hI
  obtain ⟨z42, hI⟩ := hI
  obtain ⟨z43, hI⟩ := hI
  obtain ⟨z44, hI⟩ := hI
  obtain ⟨z45, hI⟩ := hI
  obtain ⟨z46, hI⟩ := hI
  obtain ⟨rfl, F⟩ := hI
  obtain rfl : z46 = .bool false := F.fs 46 (hall 46 (by decide +kernel))
  exact hQ z0 z1 z2 z3 z4 z5 z6 z7 z8 z9 z10 z11 z12 z13 z14 z15 z16 z17 z18 z19 z20 z21 z22 z23 z24 z25 z26 z27 z28 z29 z30 z31 z32 z33 z34 z35 z36 z37 z38 z39 z40 z41 z42 z43 z44 z45 _ (Lib.hid F.bel)
end Go.Proofs.YtbmdadhbkdkgmaaDoor.P
