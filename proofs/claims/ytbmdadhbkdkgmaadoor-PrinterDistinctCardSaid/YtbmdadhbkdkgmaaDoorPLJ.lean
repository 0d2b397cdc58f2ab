/-
  The laws of layer 9: PrinterDistinct: the region that makes two procedures of two expressions, in whatever order.
-/
import Derived.Test.YtbmdadhbkdkgmaaDoorQF
namespace Go.Proofs.YtbmdadhbkdkgmaaDoor.P
open Go.RowKit
open L (Str isName prt size_len below_2 below_box ret_bool ret_int ret_string bytes_eq append_list Own8)
open A
/-- what holds while the region runs -/
structure I7 (e1 e2 : Ex) (a1 a2 : Option Addr) (c1 c2 : Nat) (B2 : Nat) (W : World) (l : Array Bool) (w : World) (v7 v8 v28 v29 v30 v31 v32 v33 v34 v35 v36 v37 : Value) : Prop where
  bel : Below W.heap.size W w
  f0 : On l 0 → v28 = .pointer (some ⟨B2, 0, none⟩)
  f1 : On l 1 → v29 = .agg #[.int .i64 e1.op, .int .i64 e1.n, .string e1.s, .slice a1 e1.args.length c1]
  f2 : On l 2 → v30 = .agg #[.int .i64 0, .string ⟨#[]⟩, .int .i64 0, .int .i64 e1.op, .int .i64 e1.n, .string e1.s, .slice a1 e1.args.length c1, .int .i64 0, .int .i64 0, .string ⟨#[]⟩, .slice none 0 0, .slice none 0 0, .slice none 0 0]
  f3 : On l 3 → ∃ g, v31 = .slice (some ⟨g, 0, none⟩) 1 1 ∧ Bx w g #[.int .i64 0, .string ⟨#[]⟩, .int .i64 0, .int .i64 e1.op, .int .i64 e1.n, .string e1.s, .slice a1 e1.args.length c1, .int .i64 0, .int .i64 0, .string ⟨#[]⟩, .slice none 0 0, .slice none 0 0, .slice none 0 0] 35
  f4 : On l 4 → v32 = .agg #[.string ⟨#[]⟩, .slice none 0 0, v31]
  f5 : On l 5 → v33 = .pointer (some ⟨B2, 4, none⟩)
  f6 : On l 6 → v34 = .agg #[.int .i64 e2.op, .int .i64 e2.n, .string e2.s, .slice a2 e2.args.length c2]
  f7 : On l 7 → v35 = .agg #[.int .i64 0, .string ⟨#[]⟩, .int .i64 0, .int .i64 e2.op, .int .i64 e2.n, .string e2.s, .slice a2 e2.args.length c2, .int .i64 0, .int .i64 0, .string ⟨#[]⟩, .slice none 0 0, .slice none 0 0, .slice none 0 0]
  f8 : On l 8 → ∃ g, v36 = .slice (some ⟨g, 0, none⟩) 1 1 ∧ Bx w g #[.int .i64 0, .string ⟨#[]⟩, .int .i64 0, .int .i64 e2.op, .int .i64 e2.n, .string e2.s, .slice a2 e2.args.length c2, .int .i64 0, .int .i64 0, .string ⟨#[]⟩, .slice none 0 0, .slice none 0 0, .slice none 0 0] 35
  f9 : On l 9 → v37 = .agg #[.string ⟨#[]⟩, .slice none 0 0, v36]
  f10 : On l 10 → ∃ g, v7 = .pointer (some ⟨g, 0, none⟩) ∧ W.heap.size ≤ g ∧ (¬ On l 12 → Bx w g #[.string ⟨#[]⟩, .slice none 0 0, .slice none 0 0] 25) ∧ (On l 12 → Bx w g #[.string ⟨#[]⟩, .slice none 0 0, v31] 25)
  f11 : On l 11 → ∃ g, v8 = .pointer (some ⟨g, 0, none⟩) ∧ W.heap.size ≤ g ∧ (¬ On l 13 → Bx w g #[.string ⟨#[]⟩, .slice none 0 0, .slice none 0 0] 25) ∧ (On l 13 → Bx w g #[.string ⟨#[]⟩, .slice none 0 0, v36] 25)
  ne : On l 10 → On l 11 → v7 ≠ v8
  d4_3 : On l 4 → On l 3
  d12_3 : On l 12 → On l 3
  d9_8 : On l 9 → On l 8
  d13_8 : On l 13 → On l 8
  d12_10 : On l 12 → On l 10
  d13_11 : On l 13 → On l 11
theorem I7.s0 {e1 e2 : Ex} {a1 a2 : Option Addr} {c1 c2 : Nat} {B2 : Nat} {W : World} {l : Array Bool} {w : World} {v7 v8 v28 v29 v30 v31 v32 v33 v34 v35 v36 v37 : Value} (F : I7 e1 e2 a1 a2 c1 c2 B2 W l w v7 v8 v28 v29 v30 v31 v32 v33 v34 v35 v36 v37) (h0 : l.getD 0 true = false)  : I7 e1 e2 a1 a2 c1 c2 B2 W (l.setIfInBounds 0 true) w v7 v8 (.pointer (some ⟨B2, 0, none⟩)) v29 v30 v31 v32 v33 v34 v35 v36 v37 :=
  { bel := F.bel,
        f0 := fun _ => rfl,
        f1 := old_on h0 (by decide) F.f1,
        f2 := old_on h0 (by decide) F.f2,
        f3 := old_on h0 (by decide) F.f3,
        f4 := old_on h0 (by decide) F.f4,
        f5 := old_on h0 (by decide) F.f5,
        f6 := old_on h0 (by decide) F.f6,
        f7 := old_on h0 (by decide) F.f7,
        f8 := old_on h0 (by decide) F.f8,
        f9 := old_on h0 (by decide) F.f9,
        f10 := old_on h0 (by decide) (fun h => let ⟨g, e, hz, hx, hy⟩ := F.f10 h; ⟨g, e, hz, fun n => hx (fun x => n ((on_set h0 _).2 (Or.inr x))), fun y => hy (((on_set h0 _).1 y).resolve_left (by decide))⟩),
        f11 := old_on h0 (by decide) (fun h => let ⟨g, e, hz, hx, hy⟩ := F.f11 h; ⟨g, e, hz, fun n => hx (fun x => n ((on_set h0 _).2 (Or.inr x))), fun y => hy (((on_set h0 _).1 y).resolve_left (by decide))⟩),
        ne := fun h h' => F.ne (((on_set h0 _).1 h).resolve_left (by decide)) (((on_set h0 _).1 h').resolve_left (by decide)),
        d4_3 := fun h => (on_set h0 _).2 (Or.inr (F.d4_3 (((on_set h0 _).1 h).resolve_left (by decide)))),
        d12_3 := fun h => (on_set h0 _).2 (Or.inr (F.d12_3 (((on_set h0 _).1 h).resolve_left (by decide)))),
        d9_8 := fun h => (on_set h0 _).2 (Or.inr (F.d9_8 (((on_set h0 _).1 h).resolve_left (by decide)))),
        d13_8 := fun h => (on_set h0 _).2 (Or.inr (F.d13_8 (((on_set h0 _).1 h).resolve_left (by decide)))),
        d12_10 := fun h => (on_set h0 _).2 (Or.inr (F.d12_10 (((on_set h0 _).1 h).resolve_left (by decide)))),
        d13_11 := fun h => (on_set h0 _).2 (Or.inr (F.d13_11 (((on_set h0 _).1 h).resolve_left (by decide)))) }
theorem I7.s1 {e1 e2 : Ex} {a1 a2 : Option Addr} {c1 c2 : Nat} {B2 : Nat} {W : World} {l : Array Bool} {w : World} {v7 v8 v28 v29 v30 v31 v32 v33 v34 v35 v36 v37 : Value} (F : I7 e1 e2 a1 a2 c1 c2 B2 W l w v7 v8 v28 v29 v30 v31 v32 v33 v34 v35 v36 v37) (h0 : l.getD 1 true = false)  : I7 e1 e2 a1 a2 c1 c2 B2 W (l.setIfInBounds 1 true) w v7 v8 v28 (.agg #[.int .i64 e1.op, .int .i64 e1.n, .string e1.s, .slice a1 e1.args.length c1]) v30 v31 v32 v33 v34 v35 v36 v37 :=
  { bel := F.bel,
        f0 := old_on h0 (by decide) F.f0,
        f1 := fun _ => rfl,
        f2 := old_on h0 (by decide) F.f2,
        f3 := old_on h0 (by decide) F.f3,
        f4 := old_on h0 (by decide) F.f4,
        f5 := old_on h0 (by decide) F.f5,
        f6 := old_on h0 (by decide) F.f6,
        f7 := old_on h0 (by decide) F.f7,
        f8 := old_on h0 (by decide) F.f8,
        f9 := old_on h0 (by decide) F.f9,
        f10 := old_on h0 (by decide) (fun h => let ⟨g, e, hz, hx, hy⟩ := F.f10 h; ⟨g, e, hz, fun n => hx (fun x => n ((on_set h0 _).2 (Or.inr x))), fun y => hy (((on_set h0 _).1 y).resolve_left (by decide))⟩),
        f11 := old_on h0 (by decide) (fun h => let ⟨g, e, hz, hx, hy⟩ := F.f11 h; ⟨g, e, hz, fun n => hx (fun x => n ((on_set h0 _).2 (Or.inr x))), fun y => hy (((on_set h0 _).1 y).resolve_left (by decide))⟩),
        ne := fun h h' => F.ne (((on_set h0 _).1 h).resolve_left (by decide)) (((on_set h0 _).1 h').resolve_left (by decide)),
        d4_3 := fun h => (on_set h0 _).2 (Or.inr (F.d4_3 (((on_set h0 _).1 h).resolve_left (by decide)))),
        d12_3 := fun h => (on_set h0 _).2 (Or.inr (F.d12_3 (((on_set h0 _).1 h).resolve_left (by decide)))),
        d9_8 := fun h => (on_set h0 _).2 (Or.inr (F.d9_8 (((on_set h0 _).1 h).resolve_left (by decide)))),
        d13_8 := fun h => (on_set h0 _).2 (Or.inr (F.d13_8 (((on_set h0 _).1 h).resolve_left (by decide)))),
        d12_10 := fun h => (on_set h0 _).2 (Or.inr (F.d12_10 (((on_set h0 _).1 h).resolve_left (by decide)))),
        d13_11 := fun h => (on_set h0 _).2 (Or.inr (F.d13_11 (((on_set h0 _).1 h).resolve_left (by decide)))) }
theorem I7.s2 {e1 e2 : Ex} {a1 a2 : Option Addr} {c1 c2 : Nat} {B2 : Nat} {W : World} {l : Array Bool} {w : World} {v7 v8 v28 v29 v30 v31 v32 v33 v34 v35 v36 v37 : Value} (F : I7 e1 e2 a1 a2 c1 c2 B2 W l w v7 v8 v28 v29 v30 v31 v32 v33 v34 v35 v36 v37) (h0 : l.getD 2 true = false)  : I7 e1 e2 a1 a2 c1 c2 B2 W (l.setIfInBounds 2 true) w v7 v8 v28 v29 (.agg #[.int .i64 0, .string ⟨#[]⟩, .int .i64 0, .int .i64 e1.op, .int .i64 e1.n, .string e1.s, .slice a1 e1.args.length c1, .int .i64 0, .int .i64 0, .string ⟨#[]⟩, .slice none 0 0, .slice none 0 0, .slice none 0 0]) v31 v32 v33 v34 v35 v36 v37 :=
  { bel := F.bel,
        f0 := old_on h0 (by decide) F.f0,
        f1 := old_on h0 (by decide) F.f1,
        f2 := fun _ => rfl,
        f3 := old_on h0 (by decide) F.f3,
        f4 := old_on h0 (by decide) F.f4,
        f5 := old_on h0 (by decide) F.f5,
        f6 := old_on h0 (by decide) F.f6,
        f7 := old_on h0 (by decide) F.f7,
        f8 := old_on h0 (by decide) F.f8,
        f9 := old_on h0 (by decide) F.f9,
        f10 := old_on h0 (by decide) (fun h => let ⟨g, e, hz, hx, hy⟩ := F.f10 h; ⟨g, e, hz, fun n => hx (fun x => n ((on_set h0 _).2 (Or.inr x))), fun y => hy (((on_set h0 _).1 y).resolve_left (by decide))⟩),
        f11 := old_on h0 (by decide) (fun h => let ⟨g, e, hz, hx, hy⟩ := F.f11 h; ⟨g, e, hz, fun n => hx (fun x => n ((on_set h0 _).2 (Or.inr x))), fun y => hy (((on_set h0 _).1 y).resolve_left (by decide))⟩),
        ne := fun h h' => F.ne (((on_set h0 _).1 h).resolve_left (by decide)) (((on_set h0 _).1 h').resolve_left (by decide)),
        d4_3 := fun h => (on_set h0 _).2 (Or.inr (F.d4_3 (((on_set h0 _).1 h).resolve_left (by decide)))),
        d12_3 := fun h => (on_set h0 _).2 (Or.inr (F.d12_3 (((on_set h0 _).1 h).resolve_left (by decide)))),
        d9_8 := fun h => (on_set h0 _).2 (Or.inr (F.d9_8 (((on_set h0 _).1 h).resolve_left (by decide)))),
        d13_8 := fun h => (on_set h0 _).2 (Or.inr (F.d13_8 (((on_set h0 _).1 h).resolve_left (by decide)))),
        d12_10 := fun h => (on_set h0 _).2 (Or.inr (F.d12_10 (((on_set h0 _).1 h).resolve_left (by decide)))),
        d13_11 := fun h => (on_set h0 _).2 (Or.inr (F.d13_11 (((on_set h0 _).1 h).resolve_left (by decide)))) }
theorem I7.s3 {e1 e2 : Ex} {a1 a2 : Option Addr} {c1 c2 : Nat} {B2 : Nat} {W : World} {l : Array Bool} {w : World} {v7 v8 v28 v29 v30 v31 v32 v33 v34 v35 v36 v37 : Value} (F : I7 e1 e2 a1 a2 c1 c2 B2 W l w v7 v8 v28 v29 v30 v31 v32 v33 v34 v35 v36 v37) (h0 : l.getD 3 true = false)  : I7 e1 e2 a1 a2 c1 c2 B2 W (l.setIfInBounds 3 true) (w.alloc (.cells #[.int .i64 0, .string ⟨#[]⟩, .int .i64 0, .int .i64 e1.op, .int .i64 e1.n, .string e1.s, .slice a1 e1.args.length c1, .int .i64 0, .int .i64 0, .string ⟨#[]⟩, .slice none 0 0, .slice none 0 0, .slice none 0 0] 35)) v7 v8 v28 v29 v30 (.slice (some ⟨w.heap.size, 0, none⟩) 1 1) v32 v33 v34 v35 v36 v37 :=
  have hb := below_box w (.cells #[.int .i64 0, .string ⟨#[]⟩, .int .i64 0, .int .i64 e1.op, .int .i64 e1.n, .string e1.s, .slice a1 e1.args.length c1, .int .i64 0, .int .i64 0, .string ⟨#[]⟩, .slice none 0 0, .slice none 0 0, .slice none 0 0] 35)
  { bel := F.bel.trans (hb.mono F.bel.size),
        f0 := old_on h0 (by decide) F.f0,
        f1 := old_on h0 (by decide) F.f1,
        f2 := old_on h0 (by decide) F.f2,
        f3 := fun _ => ⟨_, rfl, Bx.new _ _ _⟩,
        f4 := fun h => absurd (F.d4_3 (((on_set h0 _).1 h).resolve_left (by decide))) (off_of h0),
        f5 := old_on h0 (by decide) F.f5,
        f6 := old_on h0 (by decide) F.f6,
        f7 := old_on h0 (by decide) F.f7,
        f8 := old_on h0 (by decide) (fun h => let ⟨g, e, hx⟩ := F.f8 h; ⟨g, e, hx.below hb⟩),
        f9 := old_on h0 (by decide) F.f9,
        f10 := old_on h0 (by decide) (fun h => let ⟨g, e, hz, hx, hy⟩ := F.f10 h; ⟨g, e, hz, fun n => (hx (fun x => n ((on_set h0 _).2 (Or.inr x)))).below hb, fun y => absurd (F.d12_3 (((on_set h0 _).1 y).resolve_left (by decide))) (off_of h0)⟩),
        f11 := old_on h0 (by decide) (fun h => let ⟨g, e, hz, hx, hy⟩ := F.f11 h; ⟨g, e, hz, fun n => (hx (fun x => n ((on_set h0 _).2 (Or.inr x)))).below hb, fun y => (hy (((on_set h0 _).1 y).resolve_left (by decide))).below hb⟩),
        ne := fun h h' => F.ne (((on_set h0 _).1 h).resolve_left (by decide)) (((on_set h0 _).1 h').resolve_left (by decide)),
        d4_3 := fun _ => (on_set h0 _).2 (Or.inl rfl),
        d12_3 := fun _ => (on_set h0 _).2 (Or.inl rfl),
        d9_8 := fun h => (on_set h0 _).2 (Or.inr (F.d9_8 (((on_set h0 _).1 h).resolve_left (by decide)))),
        d13_8 := fun h => (on_set h0 _).2 (Or.inr (F.d13_8 (((on_set h0 _).1 h).resolve_left (by decide)))),
        d12_10 := fun h => (on_set h0 _).2 (Or.inr (F.d12_10 (((on_set h0 _).1 h).resolve_left (by decide)))),
        d13_11 := fun h => (on_set h0 _).2 (Or.inr (F.d13_11 (((on_set h0 _).1 h).resolve_left (by decide)))) }
theorem I7.s4 {e1 e2 : Ex} {a1 a2 : Option Addr} {c1 c2 : Nat} {B2 : Nat} {W : World} {l : Array Bool} {w : World} {v7 v8 v28 v29 v30 v31 v32 v33 v34 v35 v36 v37 : Value} (F : I7 e1 e2 a1 a2 c1 c2 B2 W l w v7 v8 v28 v29 v30 v31 v32 v33 v34 v35 v36 v37) (h0 : l.getD 4 true = false) (h3 : On l 3) : I7 e1 e2 a1 a2 c1 c2 B2 W (l.setIfInBounds 4 true) w v7 v8 v28 v29 v30 v31 (.agg #[.string ⟨#[]⟩, .slice none 0 0, v31]) v33 v34 v35 v36 v37 :=
  { bel := F.bel,
        f0 := old_on h0 (by decide) F.f0,
        f1 := old_on h0 (by decide) F.f1,
        f2 := old_on h0 (by decide) F.f2,
        f3 := old_on h0 (by decide) F.f3,
        f4 := fun _ => rfl,
        f5 := old_on h0 (by decide) F.f5,
        f6 := old_on h0 (by decide) F.f6,
        f7 := old_on h0 (by decide) F.f7,
        f8 := old_on h0 (by decide) F.f8,
        f9 := old_on h0 (by decide) F.f9,
        f10 := old_on h0 (by decide) (fun h => let ⟨g, e, hz, hx, hy⟩ := F.f10 h; ⟨g, e, hz, fun n => hx (fun x => n ((on_set h0 _).2 (Or.inr x))), fun y => hy (((on_set h0 _).1 y).resolve_left (by decide))⟩),
        f11 := old_on h0 (by decide) (fun h => let ⟨g, e, hz, hx, hy⟩ := F.f11 h; ⟨g, e, hz, fun n => hx (fun x => n ((on_set h0 _).2 (Or.inr x))), fun y => hy (((on_set h0 _).1 y).resolve_left (by decide))⟩),
        ne := fun h h' => F.ne (((on_set h0 _).1 h).resolve_left (by decide)) (((on_set h0 _).1 h').resolve_left (by decide)),
        d4_3 := fun _ => (on_set h0 _).2 (Or.inr h3),
        d12_3 := fun h => (on_set h0 _).2 (Or.inr (F.d12_3 (((on_set h0 _).1 h).resolve_left (by decide)))),
        d9_8 := fun h => (on_set h0 _).2 (Or.inr (F.d9_8 (((on_set h0 _).1 h).resolve_left (by decide)))),
        d13_8 := fun h => (on_set h0 _).2 (Or.inr (F.d13_8 (((on_set h0 _).1 h).resolve_left (by decide)))),
        d12_10 := fun h => (on_set h0 _).2 (Or.inr (F.d12_10 (((on_set h0 _).1 h).resolve_left (by decide)))),
        d13_11 := fun h => (on_set h0 _).2 (Or.inr (F.d13_11 (((on_set h0 _).1 h).resolve_left (by decide)))) }
theorem I7.s5 {e1 e2 : Ex} {a1 a2 : Option Addr} {c1 c2 : Nat} {B2 : Nat} {W : World} {l : Array Bool} {w : World} {v7 v8 v28 v29 v30 v31 v32 v33 v34 v35 v36 v37 : Value} (F : I7 e1 e2 a1 a2 c1 c2 B2 W l w v7 v8 v28 v29 v30 v31 v32 v33 v34 v35 v36 v37) (h0 : l.getD 5 true = false)  : I7 e1 e2 a1 a2 c1 c2 B2 W (l.setIfInBounds 5 true) w v7 v8 v28 v29 v30 v31 v32 (.pointer (some ⟨B2, 4, none⟩)) v34 v35 v36 v37 :=
  { bel := F.bel,
        f0 := old_on h0 (by decide) F.f0,
        f1 := old_on h0 (by decide) F.f1,
        f2 := old_on h0 (by decide) F.f2,
        f3 := old_on h0 (by decide) F.f3,
        f4 := old_on h0 (by decide) F.f4,
        f5 := fun _ => rfl,
        f6 := old_on h0 (by decide) F.f6,
        f7 := old_on h0 (by decide) F.f7,
        f8 := old_on h0 (by decide) F.f8,
        f9 := old_on h0 (by decide) F.f9,
        f10 := old_on h0 (by decide) (fun h => let ⟨g, e, hz, hx, hy⟩ := F.f10 h; ⟨g, e, hz, fun n => hx (fun x => n ((on_set h0 _).2 (Or.inr x))), fun y => hy (((on_set h0 _).1 y).resolve_left (by decide))⟩),
        f11 := old_on h0 (by decide) (fun h => let ⟨g, e, hz, hx, hy⟩ := F.f11 h; ⟨g, e, hz, fun n => hx (fun x => n ((on_set h0 _).2 (Or.inr x))), fun y => hy (((on_set h0 _).1 y).resolve_left (by decide))⟩),
        ne := fun h h' => F.ne (((on_set h0 _).1 h).resolve_left (by decide)) (((on_set h0 _).1 h').resolve_left (by decide)),
        d4_3 := fun h => (on_set h0 _).2 (Or.inr (F.d4_3 (((on_set h0 _).1 h).resolve_left (by decide)))),
        d12_3 := fun h => (on_set h0 _).2 (Or.inr (F.d12_3 (((on_set h0 _).1 h).resolve_left (by decide)))),
        d9_8 := fun h => (on_set h0 _).2 (Or.inr (F.d9_8 (((on_set h0 _).1 h).resolve_left (by decide)))),
        d13_8 := fun h => (on_set h0 _).2 (Or.inr (F.d13_8 (((on_set h0 _).1 h).resolve_left (by decide)))),
        d12_10 := fun h => (on_set h0 _).2 (Or.inr (F.d12_10 (((on_set h0 _).1 h).resolve_left (by decide)))),
        d13_11 := fun h => (on_set h0 _).2 (Or.inr (F.d13_11 (((on_set h0 _).1 h).resolve_left (by decide)))) }
theorem I7.s6 {e1 e2 : Ex} {a1 a2 : Option Addr} {c1 c2 : Nat} {B2 : Nat} {W : World} {l : Array Bool} {w : World} {v7 v8 v28 v29 v30 v31 v32 v33 v34 v35 v36 v37 : Value} (F : I7 e1 e2 a1 a2 c1 c2 B2 W l w v7 v8 v28 v29 v30 v31 v32 v33 v34 v35 v36 v37) (h0 : l.getD 6 true = false)  : I7 e1 e2 a1 a2 c1 c2 B2 W (l.setIfInBounds 6 true) w v7 v8 v28 v29 v30 v31 v32 v33 (.agg #[.int .i64 e2.op, .int .i64 e2.n, .string e2.s, .slice a2 e2.args.length c2]) v35 v36 v37 :=
  { bel := F.bel,
        f0 := old_on h0 (by decide) F.f0,
        f1 := old_on h0 (by decide) F.f1,
        f2 := old_on h0 (by decide) F.f2,
        f3 := old_on h0 (by decide) F.f3,
        f4 := old_on h0 (by decide) F.f4,
        f5 := old_on h0 (by decide) F.f5,
        f6 := fun _ => rfl,
        f7 := old_on h0 (by decide) F.f7,
        f8 := old_on h0 (by decide) F.f8,
        f9 := old_on h0 (by decide) F.f9,
        f10 := old_on h0 (by decide) (fun h => let ⟨g, e, hz, hx, hy⟩ := F.f10 h; ⟨g, e, hz, fun n => hx (fun x => n ((on_set h0 _).2 (Or.inr x))), fun y => hy (((on_set h0 _).1 y).resolve_left (by decide))⟩),
        f11 := old_on h0 (by decide) (fun h => let ⟨g, e, hz, hx, hy⟩ := F.f11 h; ⟨g, e, hz, fun n => hx (fun x => n ((on_set h0 _).2 (Or.inr x))), fun y => hy (((on_set h0 _).1 y).resolve_left (by decide))⟩),
        ne := fun h h' => F.ne (((on_set h0 _).1 h).resolve_left (by decide)) (((on_set h0 _).1 h').resolve_left (by decide)),
        d4_3 := fun h => (on_set h0 _).2 (Or.inr (F.d4_3 (((on_set h0 _).1 h).resolve_left (by decide)))),
        d12_3 := fun h => (on_set h0 _).2 (Or.inr (F.d12_3 (((on_set h0 _).1 h).resolve_left (by decide)))),
        d9_8 := fun h => (on_set h0 _).2 (Or.inr (F.d9_8 (((on_set h0 _).1 h).resolve_left (by decide)))),
        d13_8 := fun h => (on_set h0 _).2 (Or.inr (F.d13_8 (((on_set h0 _).1 h).resolve_left (by decide)))),
        d12_10 := fun h => (on_set h0 _).2 (Or.inr (F.d12_10 (((on_set h0 _).1 h).resolve_left (by decide)))),
        d13_11 := fun h => (on_set h0 _).2 (Or.inr (F.d13_11 (((on_set h0 _).1 h).resolve_left (by decide)))) }
theorem I7.s7 {e1 e2 : Ex} {a1 a2 : Option Addr} {c1 c2 : Nat} {B2 : Nat} {W : World} {l : Array Bool} {w : World} {v7 v8 v28 v29 v30 v31 v32 v33 v34 v35 v36 v37 : Value} (F : I7 e1 e2 a1 a2 c1 c2 B2 W l w v7 v8 v28 v29 v30 v31 v32 v33 v34 v35 v36 v37) (h0 : l.getD 7 true = false)  : I7 e1 e2 a1 a2 c1 c2 B2 W (l.setIfInBounds 7 true) w v7 v8 v28 v29 v30 v31 v32 v33 v34 (.agg #[.int .i64 0, .string ⟨#[]⟩, .int .i64 0, .int .i64 e2.op, .int .i64 e2.n, .string e2.s, .slice a2 e2.args.length c2, .int .i64 0, .int .i64 0, .string ⟨#[]⟩, .slice none 0 0, .slice none 0 0, .slice none 0 0]) v36 v37 :=
  { bel := F.bel,
        f0 := old_on h0 (by decide) F.f0,
        f1 := old_on h0 (by decide) F.f1,
        f2 := old_on h0 (by decide) F.f2,
        f3 := old_on h0 (by decide) F.f3,
        f4 := old_on h0 (by decide) F.f4,
        f5 := old_on h0 (by decide) F.f5,
        f6 := old_on h0 (by decide) F.f6,
        f7 := fun _ => rfl,
        f8 := old_on h0 (by decide) F.f8,
        f9 := old_on h0 (by decide) F.f9,
        f10 := old_on h0 (by decide) (fun h => let ⟨g, e, hz, hx, hy⟩ := F.f10 h; ⟨g, e, hz, fun n => hx (fun x => n ((on_set h0 _).2 (Or.inr x))), fun y => hy (((on_set h0 _).1 y).resolve_left (by decide))⟩),
        f11 := old_on h0 (by decide) (fun h => let ⟨g, e, hz, hx, hy⟩ := F.f11 h; ⟨g, e, hz, fun n => hx (fun x => n ((on_set h0 _).2 (Or.inr x))), fun y => hy (((on_set h0 _).1 y).resolve_left (by decide))⟩),
        ne := fun h h' => F.ne (((on_set h0 _).1 h).resolve_left (by decide)) (((on_set h0 _).1 h').resolve_left (by decide)),
        d4_3 := fun h => (on_set h0 _).2 (Or.inr (F.d4_3 (((on_set h0 _).1 h).resolve_left (by decide)))),
        d12_3 := fun h => (on_set h0 _).2 (Or.inr (F.d12_3 (((on_set h0 _).1 h).resolve_left (by decide)))),
        d9_8 := fun h => (on_set h0 _).2 (Or.inr (F.d9_8 (((on_set h0 _).1 h).resolve_left (by decide)))),
        d13_8 := fun h => (on_set h0 _).2 (Or.inr (F.d13_8 (((on_set h0 _).1 h).resolve_left (by decide)))),
        d12_10 := fun h => (on_set h0 _).2 (Or.inr (F.d12_10 (((on_set h0 _).1 h).resolve_left (by decide)))),
        d13_11 := fun h => (on_set h0 _).2 (Or.inr (F.d13_11 (((on_set h0 _).1 h).resolve_left (by decide)))) }
theorem I7.s8 {e1 e2 : Ex} {a1 a2 : Option Addr} {c1 c2 : Nat} {B2 : Nat} {W : World} {l : Array Bool} {w : World} {v7 v8 v28 v29 v30 v31 v32 v33 v34 v35 v36 v37 : Value} (F : I7 e1 e2 a1 a2 c1 c2 B2 W l w v7 v8 v28 v29 v30 v31 v32 v33 v34 v35 v36 v37) (h0 : l.getD 8 true = false)  : I7 e1 e2 a1 a2 c1 c2 B2 W (l.setIfInBounds 8 true) (w.alloc (.cells #[.int .i64 0, .string ⟨#[]⟩, .int .i64 0, .int .i64 e2.op, .int .i64 e2.n, .string e2.s, .slice a2 e2.args.length c2, .int .i64 0, .int .i64 0, .string ⟨#[]⟩, .slice none 0 0, .slice none 0 0, .slice none 0 0] 35)) v7 v8 v28 v29 v30 v31 v32 v33 v34 v35 (.slice (some ⟨w.heap.size, 0, none⟩) 1 1) v37 :=
  have hb := below_box w (.cells #[.int .i64 0, .string ⟨#[]⟩, .int .i64 0, .int .i64 e2.op, .int .i64 e2.n, .string e2.s, .slice a2 e2.args.length c2, .int .i64 0, .int .i64 0, .string ⟨#[]⟩, .slice none 0 0, .slice none 0 0, .slice none 0 0] 35)
  { bel := F.bel.trans (hb.mono F.bel.size),
        f0 := old_on h0 (by decide) F.f0,
        f1 := old_on h0 (by decide) F.f1,
        f2 := old_on h0 (by decide) F.f2,
        f3 := old_on h0 (by decide) (fun h => let ⟨g, e, hx⟩ := F.f3 h; ⟨g, e, hx.below hb⟩),
        f4 := old_on h0 (by decide) F.f4,
        f5 := old_on h0 (by decide) F.f5,
        f6 := old_on h0 (by decide) F.f6,
        f7 := old_on h0 (by decide) F.f7,
        f8 := fun _ => ⟨_, rfl, Bx.new _ _ _⟩,
        f9 := fun h => absurd (F.d9_8 (((on_set h0 _).1 h).resolve_left (by decide))) (off_of h0),
        f10 := old_on h0 (by decide) (fun h => let ⟨g, e, hz, hx, hy⟩ := F.f10 h; ⟨g, e, hz, fun n => (hx (fun x => n ((on_set h0 _).2 (Or.inr x)))).below hb, fun y => (hy (((on_set h0 _).1 y).resolve_left (by decide))).below hb⟩),
        f11 := old_on h0 (by decide) (fun h => let ⟨g, e, hz, hx, hy⟩ := F.f11 h; ⟨g, e, hz, fun n => (hx (fun x => n ((on_set h0 _).2 (Or.inr x)))).below hb, fun y => absurd (F.d13_8 (((on_set h0 _).1 y).resolve_left (by decide))) (off_of h0)⟩),
        ne := fun h h' => F.ne (((on_set h0 _).1 h).resolve_left (by decide)) (((on_set h0 _).1 h').resolve_left (by decide)),
        d4_3 := fun h => (on_set h0 _).2 (Or.inr (F.d4_3 (((on_set h0 _).1 h).resolve_left (by decide)))),
        d12_3 := fun h => (on_set h0 _).2 (Or.inr (F.d12_3 (((on_set h0 _).1 h).resolve_left (by decide)))),
        d9_8 := fun _ => (on_set h0 _).2 (Or.inl rfl),
        d13_8 := fun _ => (on_set h0 _).2 (Or.inl rfl),
        d12_10 := fun h => (on_set h0 _).2 (Or.inr (F.d12_10 (((on_set h0 _).1 h).resolve_left (by decide)))),
        d13_11 := fun h => (on_set h0 _).2 (Or.inr (F.d13_11 (((on_set h0 _).1 h).resolve_left (by decide)))) }
theorem I7.s9 {e1 e2 : Ex} {a1 a2 : Option Addr} {c1 c2 : Nat} {B2 : Nat} {W : World} {l : Array Bool} {w : World} {v7 v8 v28 v29 v30 v31 v32 v33 v34 v35 v36 v37 : Value} (F : I7 e1 e2 a1 a2 c1 c2 B2 W l w v7 v8 v28 v29 v30 v31 v32 v33 v34 v35 v36 v37) (h0 : l.getD 9 true = false) (h8 : On l 8) : I7 e1 e2 a1 a2 c1 c2 B2 W (l.setIfInBounds 9 true) w v7 v8 v28 v29 v30 v31 v32 v33 v34 v35 v36 (.agg #[.string ⟨#[]⟩, .slice none 0 0, v36]) :=
  { bel := F.bel,
        f0 := old_on h0 (by decide) F.f0,
        f1 := old_on h0 (by decide) F.f1,
        f2 := old_on h0 (by decide) F.f2,
        f3 := old_on h0 (by decide) F.f3,
        f4 := old_on h0 (by decide) F.f4,
        f5 := old_on h0 (by decide) F.f5,
        f6 := old_on h0 (by decide) F.f6,
        f7 := old_on h0 (by decide) F.f7,
        f8 := old_on h0 (by decide) F.f8,
        f9 := fun _ => rfl,
        f10 := old_on h0 (by decide) (fun h => let ⟨g, e, hz, hx, hy⟩ := F.f10 h; ⟨g, e, hz, fun n => hx (fun x => n ((on_set h0 _).2 (Or.inr x))), fun y => hy (((on_set h0 _).1 y).resolve_left (by decide))⟩),
        f11 := old_on h0 (by decide) (fun h => let ⟨g, e, hz, hx, hy⟩ := F.f11 h; ⟨g, e, hz, fun n => hx (fun x => n ((on_set h0 _).2 (Or.inr x))), fun y => hy (((on_set h0 _).1 y).resolve_left (by decide))⟩),
        ne := fun h h' => F.ne (((on_set h0 _).1 h).resolve_left (by decide)) (((on_set h0 _).1 h').resolve_left (by decide)),
        d4_3 := fun h => (on_set h0 _).2 (Or.inr (F.d4_3 (((on_set h0 _).1 h).resolve_left (by decide)))),
        d12_3 := fun h => (on_set h0 _).2 (Or.inr (F.d12_3 (((on_set h0 _).1 h).resolve_left (by decide)))),
        d9_8 := fun _ => (on_set h0 _).2 (Or.inr h8),
        d13_8 := fun h => (on_set h0 _).2 (Or.inr (F.d13_8 (((on_set h0 _).1 h).resolve_left (by decide)))),
        d12_10 := fun h => (on_set h0 _).2 (Or.inr (F.d12_10 (((on_set h0 _).1 h).resolve_left (by decide)))),
        d13_11 := fun h => (on_set h0 _).2 (Or.inr (F.d13_11 (((on_set h0 _).1 h).resolve_left (by decide)))) }
theorem I7.s10 {e1 e2 : Ex} {a1 a2 : Option Addr} {c1 c2 : Nat} {B2 : Nat} {W : World} {l : Array Bool} {w : World} {v7 v8 v28 v29 v30 v31 v32 v33 v34 v35 v36 v37 : Value} (F : I7 e1 e2 a1 a2 c1 c2 B2 W l w v7 v8 v28 v29 v30 v31 v32 v33 v34 v35 v36 v37) (h0 : l.getD 10 true = false) : I7 e1 e2 a1 a2 c1 c2 B2 W (l.setIfInBounds 10 true) (w.alloc (.cells #[.string ⟨#[]⟩, .slice none 0 0, .slice none 0 0] 25)) (.pointer (some ⟨w.heap.size, 0, none⟩)) v8 v28 v29 v30 v31 v32 v33 v34 v35 v36 v37 :=
  have hb := below_box w (.cells #[.string ⟨#[]⟩, .slice none 0 0, .slice none 0 0] 25)
  { bel := F.bel.trans (hb.mono F.bel.size),
        f0 := old_on h0 (by decide) F.f0,
        f1 := old_on h0 (by decide) F.f1,
        f2 := old_on h0 (by decide) F.f2,
        f3 := old_on h0 (by decide) (fun h => let ⟨g, e, hx⟩ := F.f3 h; ⟨g, e, hx.below hb⟩),
        f4 := old_on h0 (by decide) F.f4,
        f5 := old_on h0 (by decide) F.f5,
        f6 := old_on h0 (by decide) F.f6,
        f7 := old_on h0 (by decide) F.f7,
        f8 := old_on h0 (by decide) (fun h => let ⟨g, e, hx⟩ := F.f8 h; ⟨g, e, hx.below hb⟩),
        f9 := old_on h0 (by decide) F.f9,
        f10 := fun _ => ⟨_, rfl, F.bel.size, fun _ => Bx.new _ _ _, fun h => absurd (F.d12_10 (((on_set h0 _).1 h).resolve_left (by decide))) (off_of h0)⟩,
        f11 := old_on h0 (by decide) (fun h => let ⟨g, e, hz, hx, hy⟩ := F.f11 h; ⟨g, e, hz, fun n => (hx (fun x => n ((on_set h0 _).2 (Or.inr x)))).below hb, fun y => (hy (((on_set h0 _).1 y).resolve_left (by decide))).below hb⟩),
        ne := fun _ h' => by
          obtain ⟨g, e, _, hx, hy⟩ := F.f11 (((on_set h0 _).1 h').resolve_left (by decide))
          have hlt : g < w.heap.size := by
            by_cases h17 : On l 13
            · exact (hy h17).lt
            · exact (hx h17).lt
          rw [e]
          intro e2
          simp only [Value.pointer.injEq, Option.some.injEq, Addr.mk.injEq] at e2
          omega,
        d4_3 := fun h => (on_set h0 _).2 (Or.inr (F.d4_3 (((on_set h0 _).1 h).resolve_left (by decide)))),
        d12_3 := fun h => (on_set h0 _).2 (Or.inr (F.d12_3 (((on_set h0 _).1 h).resolve_left (by decide)))),
        d9_8 := fun h => (on_set h0 _).2 (Or.inr (F.d9_8 (((on_set h0 _).1 h).resolve_left (by decide)))),
        d13_8 := fun h => (on_set h0 _).2 (Or.inr (F.d13_8 (((on_set h0 _).1 h).resolve_left (by decide)))),
        d12_10 := fun _ => (on_set h0 _).2 (Or.inl rfl),
        d13_11 := fun h => (on_set h0 _).2 (Or.inr (F.d13_11 (((on_set h0 _).1 h).resolve_left (by decide)))) }
theorem I7.s11 {e1 e2 : Ex} {a1 a2 : Option Addr} {c1 c2 : Nat} {B2 : Nat} {W : World} {l : Array Bool} {w : World} {v7 v8 v28 v29 v30 v31 v32 v33 v34 v35 v36 v37 : Value} (F : I7 e1 e2 a1 a2 c1 c2 B2 W l w v7 v8 v28 v29 v30 v31 v32 v33 v34 v35 v36 v37) (h0 : l.getD 11 true = false) : I7 e1 e2 a1 a2 c1 c2 B2 W (l.setIfInBounds 11 true) (w.alloc (.cells #[.string ⟨#[]⟩, .slice none 0 0, .slice none 0 0] 25)) v7 (.pointer (some ⟨w.heap.size, 0, none⟩)) v28 v29 v30 v31 v32 v33 v34 v35 v36 v37 :=
  have hb := below_box w (.cells #[.string ⟨#[]⟩, .slice none 0 0, .slice none 0 0] 25)
  { bel := F.bel.trans (hb.mono F.bel.size),
        f0 := old_on h0 (by decide) F.f0,
        f1 := old_on h0 (by decide) F.f1,
        f2 := old_on h0 (by decide) F.f2,
        f3 := old_on h0 (by decide) (fun h => let ⟨g, e, hx⟩ := F.f3 h; ⟨g, e, hx.below hb⟩),
        f4 := old_on h0 (by decide) F.f4,
        f5 := old_on h0 (by decide) F.f5,
        f6 := old_on h0 (by decide) F.f6,
        f7 := old_on h0 (by decide) F.f7,
        f8 := old_on h0 (by decide) (fun h => let ⟨g, e, hx⟩ := F.f8 h; ⟨g, e, hx.below hb⟩),
        f9 := old_on h0 (by decide) F.f9,
        f11 := fun _ => ⟨_, rfl, F.bel.size, fun _ => Bx.new _ _ _, fun h => absurd (F.d13_11 (((on_set h0 _).1 h).resolve_left (by decide))) (off_of h0)⟩,
        f10 := old_on h0 (by decide) (fun h => let ⟨g, e, hz, hx, hy⟩ := F.f10 h; ⟨g, e, hz, fun n => (hx (fun x => n ((on_set h0 _).2 (Or.inr x)))).below hb, fun y => (hy (((on_set h0 _).1 y).resolve_left (by decide))).below hb⟩),
        ne := fun h' _ => by
          obtain ⟨g, e, _, hx, hy⟩ := F.f10 (((on_set h0 _).1 h').resolve_left (by decide))
          have hlt : g < w.heap.size := by
            by_cases h17 : On l 12
            · exact (hy h17).lt
            · exact (hx h17).lt
          rw [e]
          intro e2
          simp only [Value.pointer.injEq, Option.some.injEq, Addr.mk.injEq] at e2
          omega,
        d4_3 := fun h => (on_set h0 _).2 (Or.inr (F.d4_3 (((on_set h0 _).1 h).resolve_left (by decide)))),
        d12_3 := fun h => (on_set h0 _).2 (Or.inr (F.d12_3 (((on_set h0 _).1 h).resolve_left (by decide)))),
        d9_8 := fun h => (on_set h0 _).2 (Or.inr (F.d9_8 (((on_set h0 _).1 h).resolve_left (by decide)))),
        d13_8 := fun h => (on_set h0 _).2 (Or.inr (F.d13_8 (((on_set h0 _).1 h).resolve_left (by decide)))),
        d12_10 := fun h => (on_set h0 _).2 (Or.inr (F.d12_10 (((on_set h0 _).1 h).resolve_left (by decide)))),
        d13_11 := fun _ => (on_set h0 _).2 (Or.inl rfl) }
theorem I7.s12 {e1 e2 : Ex} {a1 a2 : Option Addr} {c1 c2 : Nat} {B2 : Nat} {W : World} {l : Array Bool} {w : World} {g : Nat} {v8 v28 v29 v30 v31 v32 v33 v34 v35 v36 v37 : Value} (F : I7 e1 e2 a1 a2 c1 c2 B2 W l w (.pointer (some ⟨g, 0, none⟩)) v8 v28 v29 v30 v31 v32 v33 v34 v35 v36 v37) (h0 : l.getD 12 true = false) (h3 : On l 3) (h10 : On l 10) (hz : W.heap.size ≤ g) (hg : Bx w g #[.string ⟨#[]⟩, .slice none 0 0, .slice none 0 0] 25) : I7 e1 e2 a1 a2 c1 c2 B2 W (l.setIfInBounds 12 true) (set3 w g (.string ⟨#[]⟩) (.slice none 0 0) v31) (.pointer (some ⟨g, 0, none⟩)) v8 v28 v29 v30 v31 v32 v33 v34 v35 v36 v37 :=
  { bel := below_set3 F.bel hz,
        f0 := old_on h0 (by decide) F.f0,
        f1 := old_on h0 (by decide) F.f1,
        f2 := old_on h0 (by decide) F.f2,
        f3 := old_on h0 (by decide) (fun h => let ⟨g2, e, hx⟩ := F.f3 h; ⟨g2, e, bx_keep3 hx (bx_ne hx hg (by show 13 ≠ 3; decide))⟩),
        f4 := old_on h0 (by decide) F.f4,
        f5 := old_on h0 (by decide) F.f5,
        f6 := old_on h0 (by decide) F.f6,
        f7 := old_on h0 (by decide) F.f7,
        f8 := old_on h0 (by decide) (fun h => let ⟨g2, e, hx⟩ := F.f8 h; ⟨g2, e, bx_keep3 hx (bx_ne hx hg (by show 13 ≠ 3; decide))⟩),
        f9 := old_on h0 (by decide) F.f9,
        f10 := fun _ => ⟨g, rfl, hz, fun n => absurd ((on_set h0 _).2 (Or.inl rfl)) n, fun _ => bx_set3 hg⟩,
        f11 := by
          intro h
          have h := ((on_set h0 _).1 h).resolve_left (by decide)
          obtain ⟨g2, e, hz2, hx, hy⟩ := F.f11 h
          have hne : g2 ≠ g := by
            rintro rfl
            exact F.ne h10 h e.symm
          exact ⟨g2, e, hz2, fun n => bx_keep3 (hx (fun x => n ((on_set h0 _).2 (Or.inr x)))) hne, fun y => bx_keep3 (hy (((on_set h0 _).1 y).resolve_left (by decide))) hne⟩,
        ne := fun h h' => F.ne (((on_set h0 _).1 h).resolve_left (by decide)) (((on_set h0 _).1 h').resolve_left (by decide)),
        d4_3 := fun h => (on_set h0 _).2 (Or.inr (F.d4_3 (((on_set h0 _).1 h).resolve_left (by decide)))),
        d12_3 := fun _ => (on_set h0 _).2 (Or.inr h3),
        d9_8 := fun h => (on_set h0 _).2 (Or.inr (F.d9_8 (((on_set h0 _).1 h).resolve_left (by decide)))),
        d13_8 := fun h => (on_set h0 _).2 (Or.inr (F.d13_8 (((on_set h0 _).1 h).resolve_left (by decide)))),
        d12_10 := fun _ => (on_set h0 _).2 (Or.inr h10),
        d13_11 := fun h => (on_set h0 _).2 (Or.inr (F.d13_11 (((on_set h0 _).1 h).resolve_left (by decide)))) }
theorem I7.s13 {e1 e2 : Ex} {a1 a2 : Option Addr} {c1 c2 : Nat} {B2 : Nat} {W : World} {l : Array Bool} {w : World} {g : Nat} {v7 v28 v29 v30 v31 v32 v33 v34 v35 v36 v37 : Value} (F : I7 e1 e2 a1 a2 c1 c2 B2 W l w v7 (.pointer (some ⟨g, 0, none⟩)) v28 v29 v30 v31 v32 v33 v34 v35 v36 v37) (h0 : l.getD 13 true = false) (h8 : On l 8) (h11 : On l 11) (hz : W.heap.size ≤ g) (hg : Bx w g #[.string ⟨#[]⟩, .slice none 0 0, .slice none 0 0] 25) : I7 e1 e2 a1 a2 c1 c2 B2 W (l.setIfInBounds 13 true) (set3 w g (.string ⟨#[]⟩) (.slice none 0 0) v36) v7 (.pointer (some ⟨g, 0, none⟩)) v28 v29 v30 v31 v32 v33 v34 v35 v36 v37 :=
  { bel := below_set3 F.bel hz,
        f0 := old_on h0 (by decide) F.f0,
        f1 := old_on h0 (by decide) F.f1,
        f2 := old_on h0 (by decide) F.f2,
        f3 := old_on h0 (by decide) (fun h => let ⟨g2, e, hx⟩ := F.f3 h; ⟨g2, e, bx_keep3 hx (bx_ne hx hg (by show 13 ≠ 3; decide))⟩),
        f4 := old_on h0 (by decide) F.f4,
        f5 := old_on h0 (by decide) F.f5,
        f6 := old_on h0 (by decide) F.f6,
        f7 := old_on h0 (by decide) F.f7,
        f8 := old_on h0 (by decide) (fun h => let ⟨g2, e, hx⟩ := F.f8 h; ⟨g2, e, bx_keep3 hx (bx_ne hx hg (by show 13 ≠ 3; decide))⟩),
        f9 := old_on h0 (by decide) F.f9,
        f11 := fun _ => ⟨g, rfl, hz, fun n => absurd ((on_set h0 _).2 (Or.inl rfl)) n, fun _ => bx_set3 hg⟩,
        f10 := by
          intro h
          have h := ((on_set h0 _).1 h).resolve_left (by decide)
          obtain ⟨g2, e, hz2, hx, hy⟩ := F.f10 h
          have hne : g2 ≠ g := by
            rintro rfl
            exact F.ne h h11 e
          exact ⟨g2, e, hz2, fun n => bx_keep3 (hx (fun x => n ((on_set h0 _).2 (Or.inr x)))) hne, fun y => bx_keep3 (hy (((on_set h0 _).1 y).resolve_left (by decide))) hne⟩,
        ne := fun h h' => F.ne (((on_set h0 _).1 h).resolve_left (by decide)) (((on_set h0 _).1 h').resolve_left (by decide)),
        d4_3 := fun h => (on_set h0 _).2 (Or.inr (F.d4_3 (((on_set h0 _).1 h).resolve_left (by decide)))),
        d12_3 := fun h => (on_set h0 _).2 (Or.inr (F.d12_3 (((on_set h0 _).1 h).resolve_left (by decide)))),
        d9_8 := fun h => (on_set h0 _).2 (Or.inr (F.d9_8 (((on_set h0 _).1 h).resolve_left (by decide)))),
        d13_8 := fun _ => (on_set h0 _).2 (Or.inr h8),
        d12_10 := fun h => (on_set h0 _).2 (Or.inr (F.d12_10 (((on_set h0 _).1 h).resolve_left (by decide)))),
        d13_11 := fun _ => (on_set h0 _).2 (Or.inr h11) }
def zE0 : Ex := .mk 0 0 ⟨#[]⟩ []
/-- a procedure with one expression alone -/
def exOf (e : Ex) : Pr := ⟨⟨#[]⟩, [], [.mk 0 ⟨#[]⟩ 0 e zE0 [] []]⟩
theorem exOf_in {w : World} {g : Nat} {e : Ex} {a : Option Addr} {c : Nat} (h : Bx w g #[.int .i64 0, .string ⟨#[]⟩, .int .i64 0, .int .i64 e.op, .int .i64 e.n, .string e.s, .slice a e.args.length c, .int .i64 0, .int .i64 0, .string ⟨#[]⟩, .slice none 0 0, .slice none 0 0, .slice none 0 0] 35) (k : A.Kids w a e.args) : PrIn w (exOf e) none (some ⟨g, 0, none⟩) := by
  cases e
  exact ⟨Or.inl rfl, Or.inr ⟨g, 0, rfl, ⟨h.cell 0, h.cell 1, h.cell 2, ⟨h.cell 3, h.cell 4, h.cell 5, a, c, h.cell 6, k⟩, ⟨h.cell 7, h.cell 8, h.cell 9, none, 0, h.cell 10, Or.inl rfl⟩, ⟨none, 0, h.cell 11, Or.inl rfl⟩, ⟨none, 0, h.cell 12, Or.inl rfl⟩⟩, trivial⟩⟩
theorem exOf_ok {e : Ex} (h : okE e) : OkP (exOf e) := by
  have h0 : (⟨#[]⟩ : ByteArray).size = 0 := rfl
  refine ⟨by show (⟨#[]⟩ : ByteArray).size ≤ _; decide, by show (0 : Nat) ≤ _; decide, fun j hj => absurd (show j < 0 from hj) (Nat.not_lt_zero j), by show (1 : Nat) ≤ _; decide, ?_⟩
  simp [exOf, zE0, okB, okS, okE, okEs, h0, h]
theorem exOf_inj {e f : Ex} : exOf e = exOf f ↔ e = f := ⟨fun h => by unfold exOf at h; simpa using h, fun h => by rw [h]⟩
theorem I7.done {e1 e2 : Ex} {a1 a2 : Option Addr} {c1 c2 : Nat} {B2 : Nat} {W : World} {l : Array Bool} {w : World} {v7 v8 v28 v29 v30 v31 v32 v33 v34 v35 v36 v37 : Value} (F : I7 e1 e2 a1 a2 c1 c2 B2 W l w v7 v8 v28 v29 v30 v31 v32 v33 v34 v35 v36 v37) (hall : ∀ j, j < 14 → On l j) (k1 : A.Kids W a1 e1.args) (k2 : A.Kids W a2 e2.args) :
    ∃ g31 g36 g7 g8, v7 = .pointer (some ⟨g7, 0, none⟩) ∧ v8 = .pointer (some ⟨g8, 0, none⟩) ∧ v28 = .pointer (some ⟨B2, 0, none⟩) ∧ v29 = .agg #[.int .i64 e1.op, .int .i64 e1.n, .string e1.s, .slice a1 e1.args.length c1] ∧ v30 = .agg #[.int .i64 0, .string ⟨#[]⟩, .int .i64 0, .int .i64 e1.op, .int .i64 e1.n, .string e1.s, .slice a1 e1.args.length c1, .int .i64 0, .int .i64 0, .string ⟨#[]⟩, .slice none 0 0, .slice none 0 0, .slice none 0 0] ∧ v31 = .slice (some ⟨g31, 0, none⟩) 1 1 ∧ v32 = .agg #[.string ⟨#[]⟩, .slice none 0 0, .slice (some ⟨g31, 0, none⟩) 1 1] ∧ v33 = .pointer (some ⟨B2, 4, none⟩) ∧ v34 = .agg #[.int .i64 e2.op, .int .i64 e2.n, .string e2.s, .slice a2 e2.args.length c2] ∧ v35 = .agg #[.int .i64 0, .string ⟨#[]⟩, .int .i64 0, .int .i64 e2.op, .int .i64 e2.n, .string e2.s, .slice a2 e2.args.length c2, .int .i64 0, .int .i64 0, .string ⟨#[]⟩, .slice none 0 0, .slice none 0 0, .slice none 0 0] ∧ v36 = .slice (some ⟨g36, 0, none⟩) 1 1 ∧ v37 = .agg #[.string ⟨#[]⟩, .slice none 0 0, .slice (some ⟨g36, 0, none⟩) 1 1] ∧
      Bx w g7 #[.string ⟨#[]⟩, .slice none 0 0, .slice (some ⟨g31, 0, none⟩) 1 1] 25 ∧ PrIn w (exOf e1) none (some ⟨g31, 0, none⟩) ∧ Bx w g8 #[.string ⟨#[]⟩, .slice none 0 0, .slice (some ⟨g36, 0, none⟩) 1 1] 25 ∧ PrIn w (exOf e2) none (some ⟨g36, 0, none⟩) ∧ Below W.heap.size W w := by
  have H := fun j h => hall j h
  obtain ⟨g31, rfl, x31⟩ := F.f3 (H 3 (by decide))
  obtain ⟨g36, rfl, x36⟩ := F.f8 (H 8 (by decide))
  obtain ⟨g7, rfl, _, _, x7⟩ := F.f10 (H 10 (by decide))
  obtain ⟨g8, rfl, _, _, x8⟩ := F.f11 (H 11 (by decide))
  exact ⟨g31, g36, g7, g8, rfl, rfl, F.f0 (H 0 (by decide)), F.f1 (H 1 (by decide)), F.f2 (H 2 (by decide)), rfl, F.f4 (H 4 (by decide)), F.f5 (H 5 (by decide)), F.f6 (H 6 (by decide)), F.f7 (H 7 (by decide)), rfl, F.f9 (H 9 (by decide)), x7 (H 12 (by decide)), exOf_in x31 (k1.below F.bel), x8 (H 13 (by decide)), exOf_in x36 (k2.below F.bel), F.bel⟩
end Go.Proofs.YtbmdadhbkdkgmaaDoor.P
