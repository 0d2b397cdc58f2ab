/-
  The law package of layer 14: the examples' memory: works, the examples hold.
-/
import Derived.Test.YtnelpgeiioflmaaGreatDoorM26
namespace Go.Proofs.YtnelpgeiioflmaaGreatDoor.F
open Go.RowKit
open L (Str isName prt size_len below_2 below_box ret_bool ret_int eql_eq bytes_eq)
open A (Ex St Pm Pr exV exO exV_mk Bx okE okEs okB okS StrsAt PmsAt PrIn OkP prV prO names cB)
open Y (chk Tb)
open P (On off_of on_set wp_region_inv IS)

set_option maxHeartbeats 16000000 in
set_option maxRecDepth 100000 in
theorem works_any (w : World) (ht : Tb w) : Calls Tryz.prog 10 #[] w fun e' w' => e' = .returned (.bool true) ∧ Below w.heap.size w w' := by
  obtain ⟨wa, hwa⟩ : ∃ wa, w.alloc (.cells #[.int .i64 1, .int .i64 1, .string ⟨#[]⟩, .slice none 0 0] 42) = wa := ⟨_, rfl⟩
  have ha := below_box w (.cells #[.int .i64 1, .int .i64 1, .string ⟨#[]⟩, .slice none 0 0] 42)
  have hb1 := Bx.new w #[.int .i64 1, .int .i64 1, .string ⟨#[]⟩, .slice none 0 0] 42
  rw [hwa] at ha hb1
  have HA := Lib.hid ha
  have HB1 := Lib.hid hb1
  have HWa := Lib.hid hwa
  have HT := Lib.hid ht
  clear ha hb1 hwa ht
  go_enter Tryz.func10, Tryz.ntmps10
  go_upto_region 2 with fail
  rw [HWa.out]
  refine wp_region_inv rfl (fun l a w' => ∃ v0 v1 v2 v3 v4 : Value, a = { tmps := #[Value.bool false, Value.pointer (some { block := w.heap.size, off := 0 }), v4, undef, undef, undef, Value.agg #[Value.int IntKind.i64 1, Value.int IntKind.i64 1, Value.string { data := #[] }, Value.slice none 0 0], v0, v1, v2, v3, undef, undef, undef, undef, undef, undef, undef, undef, undef, undef, undef, undef, undef, undef, undef, undef, undef, undef, undef, undef, undef, undef, undef, undef, undef, undef, undef, undef, undef, undef, undef, undef, undef, undef, undef, undef, undef, undef, undef, undef, undef, undef, undef, undef, undef, undef, undef, undef, undef, undef, undef, undef, undef, undef, undef, undef, undef, undef, undef, undef, undef, undef, undef, undef, undef, undef, undef, undef, undef, undef], defers := [] } ∧ ((¬ On l 5 ∧ IS (MP wa.heap.size [⟨fun _ => .agg #[.int .i64 3, .int .i64 0, .string ⟨#[120]⟩, .slice none 0 0], []⟩, ⟨fun _ => .agg #[.int .i64 1, .int .i64 1, .string ⟨#[]⟩, .slice none 0 0], []⟩, ⟨fun ρ => .slice (some ⟨(ρ 0), 0, none⟩) 2 2, [(0, fun _ => #[.int .i64 3, .int .i64 0, .string ⟨#[120]⟩, .slice none 0 0, .int .i64 1, .int .i64 1, .string ⟨#[]⟩, .slice none 0 0], 42)]⟩, ⟨fun ρ => .agg #[.int .i64 14, .int .i64 0, .string ⟨#[]⟩, .slice (some ⟨(ρ 0), 0, none⟩) 2 2], [(0, fun _ => #[.int .i64 3, .int .i64 0, .string ⟨#[120]⟩, .slice none 0 0, .int .i64 1, .int .i64 1, .string ⟨#[]⟩, .slice none 0 0], 42)]⟩, ⟨fun ρ => Value.pointer (some ⟨(ρ 0), 0, none⟩), [(0, fun _ => #[.int .i64 0, .int .i64 0, .string ⟨#[]⟩, .slice none 0 0], 42)]⟩]) wa l w' [v0, v1, v2, v3, v4]) ∨ (On l 5 ∧ (∀ j, j < 5 → On l j) ∧ (∃ bA q0 : Nat, v4 = Value.pointer (some ⟨bA, 0, none⟩) ∧ Bx w' bA #[.int .i64 14, .int .i64 0, .string ⟨#[]⟩, .slice (some ⟨q0, 0, none⟩) 2 2] 42 ∧ Bx w' q0 #[.int .i64 3, .int .i64 0, .string ⟨#[120]⟩, .slice none 0 0, .int .i64 1, .int .i64 1, .string ⟨#[]⟩, .slice none 0 0] 42 ∧ Below wa.heap.size wa w')))) (by kernel_rfl) ?_ ?_ ?_
  · intro l hl
    exact ⟨_, _, _, _, _, rfl, Or.inl ⟨hl 5, IS.start _ _ hl _⟩⟩
  · rintro l a w' ⟨v0, v1, v2, v3, v4, rfl, hF⟩ i hi h0 hall
    have hF2 : i < 5 → ¬ On l 5 ∧ IS (MP wa.heap.size [⟨fun _ => .agg #[.int .i64 3, .int .i64 0, .string ⟨#[120]⟩, .slice none 0 0], []⟩, ⟨fun _ => .agg #[.int .i64 1, .int .i64 1, .string ⟨#[]⟩, .slice none 0 0], []⟩, ⟨fun ρ => .slice (some ⟨(ρ 0), 0, none⟩) 2 2, [(0, fun _ => #[.int .i64 3, .int .i64 0, .string ⟨#[120]⟩, .slice none 0 0, .int .i64 1, .int .i64 1, .string ⟨#[]⟩, .slice none 0 0], 42)]⟩, ⟨fun ρ => .agg #[.int .i64 14, .int .i64 0, .string ⟨#[]⟩, .slice (some ⟨(ρ 0), 0, none⟩) 2 2], [(0, fun _ => #[.int .i64 3, .int .i64 0, .string ⟨#[120]⟩, .slice none 0 0, .int .i64 1, .int .i64 1, .string ⟨#[]⟩, .slice none 0 0], 42)]⟩, ⟨fun ρ => Value.pointer (some ⟨(ρ 0), 0, none⟩), [(0, fun _ => #[.int .i64 0, .int .i64 0, .string ⟨#[]⟩, .slice none 0 0], 42)]⟩]) wa l w' [v0, v1, v2, v3, v4] := fun h => hF.resolve_right (fun z => off_of h0 (z.2.1 i h))
    match i, hi, h0, hall, hF2 with
    | 0, _, h0, hall, hF2 =>
      obtain ⟨hnm, F⟩ := hF2 (by decide)
      have HNm : Hid (¬ On (l.setIfInBounds 0 true) 5) := fun z => hnm (((on_set h0 5).1 z).resolve_left (by decide))
      clear hF hF2 hnm
      have hsz : wa.heap.size ≤ w'.heap.size := F.bel.size
      have HC := Lib.hid (lname_any ⟨#[120]⟩ w')
      have HS := Lib.hid hsz
      have HF := Lib.hid (fun w'' hb x hx => F.step MP.mono h0 (show 0 < 5 by decide) (w' := w'') hb (x := x) hx)
      clear F hall h0 hsz
      refine wpOp_step (by rfl) (fun K' hK => ?_)
      have HKk := Lib.hid hK
      clear hK
      go_simp
      go_at_call 30
      refine HC.out.mono ?_; rintro e' w5 ⟨rfl, hb5⟩
      have HF5 := Lib.hid (HF.out w5 hb5 _ (show MC.holds wa.heap.size ⟨fun _ => .agg #[.int .i64 3, .int .i64 0, .string ⟨#[120]⟩, .slice none 0 0], []⟩ (.agg #[.int .i64 3, .int .i64 0, .string ⟨#[120]⟩, .slice none 0 0]) w5 from ⟨rho [], rfl, trivial⟩))
      exact HKk.out _ _ ⟨_, _, _, _, _, rfl, Or.inl ⟨HNm.out, HF5.out⟩⟩
    | 1, _, h0, hall, hF2 =>
      obtain ⟨hnm, F⟩ := hF2 (by decide)
      have HNm : Hid (¬ On (l.setIfInBounds 1 true) 5) := fun z => hnm (((on_set h0 5).1 z).resolve_left (by decide))
      clear hF hF2 hnm
      have hsz : wa.heap.size ≤ w'.heap.size := F.bel.size
      have y0 := (HB1.out.below F.bel).cell 0
      have y1 := (HB1.out.below F.bel).cell 1
      have y2 := (HB1.out.below F.bel).cell 2
      have y3 := (HB1.out.below F.bel).cell 3
      simp only [List.getElem?_toArray, List.getElem?_cons_zero, List.getElem?_cons_succ] at y0 y1 y2 y3
      have HF := Lib.hid (F.step MP.mono h0 (show 1 < 5 by decide) (Below.refl _ _) (x := .agg #[.int .i64 1, .int .i64 1, .string ⟨#[]⟩, .slice none 0 0]) (show MC.holds wa.heap.size ⟨fun _ => .agg #[.int .i64 1, .int .i64 1, .string ⟨#[]⟩, .slice none 0 0], []⟩ (.agg #[.int .i64 1, .int .i64 1, .string ⟨#[]⟩, .slice none 0 0]) w' from ⟨rho [], rfl, trivial⟩))
      clear F hall h0 hsz
      refine wpOp_step (by rfl) (fun K' hK => ?_)
      have HKk := Lib.hid hK
      clear hK
      go_simp
      exact HKk.out _ _ ⟨_, _, _, _, _, rfl, Or.inl ⟨HNm.out, HF.out⟩⟩
    | 2, _, h0, hall, hF2 =>
      obtain ⟨hnm, F⟩ := hF2 (by decide)
      have HNm : Hid (¬ On (l.setIfInBounds 2 true) 5) := fun z => hnm (((on_set h0 5).1 z).resolve_left (by decide))
      clear hF hF2 hnm
      have hsz : wa.heap.size ≤ w'.heap.size := F.bel.size
      obtain rfl : v0 = .agg #[.int .i64 3, .int .i64 0, .string ⟨#[120]⟩, .slice none 0 0] := by
        obtain ⟨_, h, _⟩ : MC.holds wa.heap.size ⟨fun _ => .agg #[.int .i64 3, .int .i64 0, .string ⟨#[120]⟩, .slice none 0 0], []⟩ v0 w' := F.f 0 (hall 0 (by decide +kernel))
        exact h
      obtain rfl : v1 = .agg #[.int .i64 1, .int .i64 1, .string ⟨#[]⟩, .slice none 0 0] := by
        obtain ⟨_, h, _⟩ : MC.holds wa.heap.size ⟨fun _ => .agg #[.int .i64 1, .int .i64 1, .string ⟨#[]⟩, .slice none 0 0], []⟩ v1 w' := F.f 1 (hall 1 (by decide +kernel))
        exact h
      have HF := Lib.hid (F.step MP.mono h0 (show 2 < 5 by decide) (w' := w'.alloc (.cells #[.int .i64 3, .int .i64 0, .string ⟨#[120]⟩, .slice none 0 0, .int .i64 1, .int .i64 1, .string ⟨#[]⟩, .slice none 0 0] 42)) (below_box _ _) (x := .slice (some ⟨w'.heap.size, 0, none⟩) 2 2) (show MC.holds wa.heap.size ⟨fun ρ => .slice (some ⟨(ρ 0), 0, none⟩) 2 2, [(0, fun _ => #[.int .i64 3, .int .i64 0, .string ⟨#[120]⟩, .slice none 0 0, .int .i64 1, .int .i64 1, .string ⟨#[]⟩, .slice none 0 0], 42)]⟩ (.slice (some ⟨w'.heap.size, 0, none⟩) 2 2) (w'.alloc (.cells #[.int .i64 3, .int .i64 0, .string ⟨#[120]⟩, .slice none 0 0, .int .i64 1, .int .i64 1, .string ⟨#[]⟩, .slice none 0 0] 42)) from ⟨rho [w'.heap.size], rfl, ⟨hsz, Bx.new _ _ _⟩, trivial⟩))
      clear F hall h0 hsz
      refine wpOp_step (by rfl) (fun K' hK => ?_)
      have HKk := Lib.hid hK
      clear hK
      go_simp
      exact HKk.out _ _ ⟨_, _, _, _, _, rfl, Or.inl ⟨HNm.out, HF.out⟩⟩
    | 3, _, h0, hall, hF2 =>
      obtain ⟨hnm, F⟩ := hF2 (by decide)
      have HNm : Hid (¬ On (l.setIfInBounds 3 true) 5) := fun z => hnm (((on_set h0 5).1 z).resolve_left (by decide))
      clear hF hF2 hnm
      have hsz : wa.heap.size ≤ w'.heap.size := F.bel.size
      obtain ⟨g2_0, rfl, l2_0, x2_0⟩ : ∃ g2_0 : Nat, v2 = .slice (some ⟨g2_0, 0, none⟩) 2 2 ∧ wa.heap.size ≤ g2_0 ∧ Bx w' g2_0 #[.int .i64 3, .int .i64 0, .string ⟨#[120]⟩, .slice none 0 0, .int .i64 1, .int .i64 1, .string ⟨#[]⟩, .slice none 0 0] 42 := by
        obtain ⟨ρ, h, hm⟩ : MC.holds wa.heap.size ⟨fun ρ => .slice (some ⟨(ρ 0), 0, none⟩) 2 2, [(0, fun _ => #[.int .i64 3, .int .i64 0, .string ⟨#[120]⟩, .slice none 0 0, .int .i64 1, .int .i64 1, .string ⟨#[]⟩, .slice none 0 0], 42)]⟩ v2 w' := F.f 2 (hall 2 (by decide +kernel))
        exact ⟨ρ 0, h, hm.1.1, hm.1.2⟩
      have HF := Lib.hid (F.step MP.mono h0 (show 3 < 5 by decide) (Below.refl _ _) (x := .agg #[.int .i64 14, .int .i64 0, .string ⟨#[]⟩, .slice (some ⟨g2_0, 0, none⟩) 2 2]) (show MC.holds wa.heap.size ⟨fun ρ => .agg #[.int .i64 14, .int .i64 0, .string ⟨#[]⟩, .slice (some ⟨(ρ 0), 0, none⟩) 2 2], [(0, fun _ => #[.int .i64 3, .int .i64 0, .string ⟨#[120]⟩, .slice none 0 0, .int .i64 1, .int .i64 1, .string ⟨#[]⟩, .slice none 0 0], 42)]⟩ (.agg #[.int .i64 14, .int .i64 0, .string ⟨#[]⟩, .slice (some ⟨g2_0, 0, none⟩) 2 2]) w' from ⟨rho [g2_0], rfl, ⟨l2_0, x2_0⟩, trivial⟩))
      clear F hall h0 hsz
      refine wpOp_step (by rfl) (fun K' hK => ?_)
      have HKk := Lib.hid hK
      clear hK
      go_simp
      exact HKk.out _ _ ⟨_, _, _, _, _, rfl, Or.inl ⟨HNm.out, HF.out⟩⟩
    | 4, _, h0, hall, hF2 =>
      obtain ⟨hnm, F⟩ := hF2 (by decide)
      have HNm : Hid (¬ On (l.setIfInBounds 4 true) 5) := fun z => hnm (((on_set h0 5).1 z).resolve_left (by decide))
      clear hF hF2 hnm
      have hsz : wa.heap.size ≤ w'.heap.size := F.bel.size
      have HF := Lib.hid (F.step MP.mono h0 (show 4 < 5 by decide) (w' := w'.alloc (.cells #[.int .i64 0, .int .i64 0, .string ⟨#[]⟩, .slice none 0 0] 42)) (below_box _ _) (x := Value.pointer (some ⟨w'.heap.size, 0, none⟩)) (show MC.holds wa.heap.size ⟨fun ρ => Value.pointer (some ⟨(ρ 0), 0, none⟩), [(0, fun _ => #[.int .i64 0, .int .i64 0, .string ⟨#[]⟩, .slice none 0 0], 42)]⟩ (Value.pointer (some ⟨w'.heap.size, 0, none⟩)) (w'.alloc (.cells #[.int .i64 0, .int .i64 0, .string ⟨#[]⟩, .slice none 0 0] 42)) from ⟨rho [w'.heap.size], rfl, ⟨hsz, Bx.new _ _ _⟩, trivial⟩))
      clear F hall h0 hsz
      refine wpOp_step (by rfl) (fun K' hK => ?_)
      have HKk := Lib.hid hK
      clear hK
      go_simp
      exact HKk.out _ _ ⟨_, _, _, _, _, rfl, Or.inl ⟨HNm.out, HF.out⟩⟩
    | 5, _, h0, hall, _ =>
      obtain ⟨_, F⟩ := hF.resolve_right (fun z => off_of h0 z.1)
      have hsz : wa.heap.size ≤ w'.heap.size := F.bel.size
      obtain ⟨g3_0, rfl, l3_0, x3_0⟩ : ∃ g3_0 : Nat, v3 = .agg #[.int .i64 14, .int .i64 0, .string ⟨#[]⟩, .slice (some ⟨g3_0, 0, none⟩) 2 2] ∧ wa.heap.size ≤ g3_0 ∧ Bx w' g3_0 #[.int .i64 3, .int .i64 0, .string ⟨#[120]⟩, .slice none 0 0, .int .i64 1, .int .i64 1, .string ⟨#[]⟩, .slice none 0 0] 42 := by
        obtain ⟨ρ, h, hm⟩ : MC.holds wa.heap.size ⟨fun ρ => .agg #[.int .i64 14, .int .i64 0, .string ⟨#[]⟩, .slice (some ⟨(ρ 0), 0, none⟩) 2 2], [(0, fun _ => #[.int .i64 3, .int .i64 0, .string ⟨#[120]⟩, .slice none 0 0, .int .i64 1, .int .i64 1, .string ⟨#[]⟩, .slice none 0 0], 42)]⟩ v3 w' := F.f 3 (hall 3 (by decide +kernel))
        exact ⟨ρ 0, h, hm.1.1, hm.1.2⟩
      obtain ⟨g4_0, rfl, l4_0, x4_0⟩ : ∃ g4_0 : Nat, v4 = Value.pointer (some ⟨g4_0, 0, none⟩) ∧ wa.heap.size ≤ g4_0 ∧ Bx w' g4_0 #[.int .i64 0, .int .i64 0, .string ⟨#[]⟩, .slice none 0 0] 42 := by
        obtain ⟨ρ, h, hm⟩ : MC.holds wa.heap.size ⟨fun ρ => Value.pointer (some ⟨(ρ 0), 0, none⟩), [(0, fun _ => #[.int .i64 0, .int .i64 0, .string ⟨#[]⟩, .slice none 0 0], 42)]⟩ v4 w' := F.f 4 (hall 4 (by decide +kernel))
        exact ⟨ρ 0, h, hm.1.1, hm.1.2⟩
      have HFin : Hid (On (l.setIfInBounds 5 true) 5 ∧ (∀ j, j < 5 → On (l.setIfInBounds 5 true) j) ∧ (∃ bA q0 : Nat, Value.pointer (some ⟨g4_0, 0, none⟩) = Value.pointer (some ⟨bA, 0, none⟩) ∧ Bx ((((w'.setCell ⟨g4_0, 0, none⟩ (.int .i64 14)).setCell ⟨g4_0, 1, none⟩ (.int .i64 0)).setCell ⟨g4_0, 2, none⟩ (.string ⟨#[]⟩)).setCell ⟨g4_0, 3, none⟩ (.slice (some ⟨g3_0, 0, none⟩) 2 2)) bA #[.int .i64 14, .int .i64 0, .string ⟨#[]⟩, .slice (some ⟨q0, 0, none⟩) 2 2] 42 ∧ Bx ((((w'.setCell ⟨g4_0, 0, none⟩ (.int .i64 14)).setCell ⟨g4_0, 1, none⟩ (.int .i64 0)).setCell ⟨g4_0, 2, none⟩ (.string ⟨#[]⟩)).setCell ⟨g4_0, 3, none⟩ (.slice (some ⟨g3_0, 0, none⟩) 2 2)) q0 #[.int .i64 3, .int .i64 0, .string ⟨#[120]⟩, .slice none 0 0, .int .i64 1, .int .i64 1, .string ⟨#[]⟩, .slice none 0 0] 42 ∧ Below wa.heap.size wa ((((w'.setCell ⟨g4_0, 0, none⟩ (.int .i64 14)).setCell ⟨g4_0, 1, none⟩ (.int .i64 0)).setCell ⟨g4_0, 2, none⟩ (.string ⟨#[]⟩)).setCell ⟨g4_0, 3, none⟩ (.slice (some ⟨g3_0, 0, none⟩) 2 2)))) :=
        ⟨(on_set h0 5).2 (Or.inl rfl), (fun j hj => by
          refine (on_set h0 j).2 (Or.inr (hall j ?_))
          revert hj
          revert j
          decide +kernel), ⟨g4_0, g3_0, rfl, ((((x4_0.set 0).set 1).set 2).set 3), (bx_off (bx_off (bx_off (bx_off x3_0 (bx_ne x3_0 x4_0 (show (8 : Nat) ≠ 4 by decide)) _) (bx_ne x3_0 x4_0 (show (8 : Nat) ≠ 4 by decide)) _) (bx_ne x3_0 x4_0 (show (8 : Nat) ≠ 4 by decide)) _) (bx_ne x3_0 x4_0 (show (8 : Nat) ≠ 4 by decide)) _), ((((F.bel.setCell (p := ⟨g4_0, 0, none⟩) l4_0 _).setCell (p := ⟨g4_0, 1, none⟩) l4_0 _).setCell (p := ⟨g4_0, 2, none⟩) l4_0 _).setCell (p := ⟨g4_0, 3, none⟩) l4_0 _)⟩⟩
      clear F hall h0 hF hsz
      have z0 := x4_0.cell 0
      have z1 := x4_0.cell 1
      have z2 := x4_0.cell 2
      have z3 := x4_0.cell 3
      have fz0 := x4_0.free 0
      have fz1 := x4_0.free 1
      have fz2 := x4_0.free 2
      have fz3 := x4_0.free 3
      simp only [List.getElem?_toArray, List.getElem?_cons_zero, List.getElem?_cons_succ] at z0 z1 z2 z3
      refine wpOp_step (by rfl) (fun K' hK => ?_)
      have HKk := Lib.hid hK
      clear hK
      go_simp
      exact HKk.out _ _ ⟨_, _, _, _, _, rfl, Or.inr HFin.out⟩
    | i + 6, hi, _, _, _ => exact absurd hi (by show ¬ (i + 6 < 6); omega)
  rintro l9 a wb ⟨ra0, ra1, ra2, ra3, ra4, rfl, hF⟩ hall
  obtain ⟨_, _, b2, m1, rfl, hb2, hm1, hbb⟩ := hF.resolve_left (fun z => z.1 (hall 5 (by decide)))
  clear hF hall
  have HB1b := Lib.hid (HB1.out.below hbb)
  have HB2 := Lib.hid hb2
  have HM1 := Lib.hid hm1
  have HBb := Lib.hid hbb
  clear hb2 hm1 hbb
  go_upto_region 3 with fail
  refine wp_region_inv rfl (fun l a w' => ∃ v0 v1 v2 v3 v4 v5 v6 v7 v8 v9 v10 v11 v12 v13 v14 : Value, a = { tmps := #[Value.bool false, Value.pointer (some { block := w.heap.size, off := 0 }), Value.pointer (some { block := b2, off := 0 }), v14, undef, undef, Value.agg #[Value.int IntKind.i64 1, Value.int IntKind.i64 1, Value.string { data := #[] }, Value.slice none 0 0], ra0, ra1, ra2, ra3, v0, v1, v2, v3, v4, v5, v6, v7, v8, v9, v10, v11, v12, v13, undef, undef, undef, undef, undef, undef, undef, undef, undef, undef, undef, undef, undef, undef, undef, undef, undef, undef, undef, undef, undef, undef, undef, undef, undef, undef, undef, undef, undef, undef, undef, undef, undef, undef, undef, undef, undef, undef, undef, undef, undef, undef, undef, undef, undef, undef, undef, undef, undef, undef, undef, undef, undef, undef, undef, undef], defers := [] } ∧ ((¬ On l 15 ∧ IS (MP wb.heap.size [⟨fun _ => .agg #[.int .i64 2, .int .i64 0, .string ⟨#[107]⟩, .slice none 0 0], []⟩, ⟨fun ρ => .agg #[.int .i64 22, .int .i64 0, .string ⟨#[]⟩, .slice (some ⟨(ρ 0), 0, none⟩) 1 1], [(0, fun _ => #[.int .i64 2, .int .i64 0, .string ⟨#[107]⟩, .slice none 0 0], 42)]⟩, ⟨fun ρ => .agg #[.int .i64 1, .string ⟨#[120]⟩, .int .i64 0, .int .i64 22, .int .i64 0, .string ⟨#[]⟩, .slice (some ⟨(ρ 0), 0, none⟩) 1 1, .int .i64 0, .int .i64 0, .string ⟨#[]⟩, .slice none 0 0, .slice none 0 0, .slice none 0 0], [(0, fun _ => #[.int .i64 2, .int .i64 0, .string ⟨#[107]⟩, .slice none 0 0], 42)]⟩, ⟨fun _ => .agg #[.int .i64 1, .int .i64 1, .string ⟨#[]⟩, .slice none 0 0], []⟩, ⟨fun _ => .agg #[.int .i64 1, .string ⟨#[121]⟩, .int .i64 0, .int .i64 1, .int .i64 1, .string ⟨#[]⟩, .slice none 0 0, .int .i64 0, .int .i64 0, .string ⟨#[]⟩, .slice none 0 0, .slice none 0 0, .slice none 0 0], []⟩, ⟨fun _ => .agg #[.int .i64 1, .int .i64 1, .string ⟨#[]⟩, .slice none 0 0], []⟩, ⟨fun _ => .agg #[.int .i64 1, .string ⟨#[122]⟩, .int .i64 0, .int .i64 1, .int .i64 1, .string ⟨#[]⟩, .slice none 0 0, .int .i64 0, .int .i64 0, .string ⟨#[]⟩, .slice none 0 0, .slice none 0 0, .slice none 0 0], []⟩, ⟨fun _ => .agg #[.int .i64 14, .int .i64 0, .string ⟨#[]⟩, .slice (some ⟨m1, 0, none⟩) 2 2], []⟩, ⟨fun _ => .agg #[.int .i64 1, .int .i64 1, .string ⟨#[]⟩, .slice none 0 0], []⟩, ⟨fun _ => .agg #[.int .i64 2, .string ⟨#[121]⟩, .int .i64 0, .int .i64 1, .int .i64 1, .string ⟨#[]⟩, .slice none 0 0, .int .i64 0, .int .i64 0, .string ⟨#[]⟩, .slice none 0 0, .slice none 0 0, .slice none 0 0], []⟩, ⟨fun ρ => .slice (some ⟨(ρ 0), 0, none⟩) 1 1, [(0, fun _ => #[.int .i64 2, .string ⟨#[121]⟩, .int .i64 0, .int .i64 1, .int .i64 1, .string ⟨#[]⟩, .slice none 0 0, .int .i64 0, .int .i64 0, .string ⟨#[]⟩, .slice none 0 0, .slice none 0 0, .slice none 0 0], 44)]⟩, ⟨fun ρ => .agg #[.int .i64 5, .string ⟨#[]⟩, .int .i64 0, .int .i64 14, .int .i64 0, .string ⟨#[]⟩, .slice (some ⟨m1, 0, none⟩) 2 2, .int .i64 0, .int .i64 0, .string ⟨#[]⟩, .slice none 0 0, .slice (some ⟨(ρ 0), 0, none⟩) 1 1, .slice none 0 0], [(0, fun _ => #[.int .i64 2, .string ⟨#[121]⟩, .int .i64 0, .int .i64 1, .int .i64 1, .string ⟨#[]⟩, .slice none 0 0, .int .i64 0, .int .i64 0, .string ⟨#[]⟩, .slice none 0 0, .slice none 0 0, .slice none 0 0], 44)]⟩, ⟨fun ρ => .slice (some ⟨(ρ 0), 0, none⟩) 4 4, [(0, fun ρ => (rowP m1 (ρ 1) (ρ 2)), 44), (1, fun _ => #[.int .i64 2, .int .i64 0, .string ⟨#[107]⟩, .slice none 0 0], 42), (2, fun _ => #[.int .i64 2, .string ⟨#[121]⟩, .int .i64 0, .int .i64 1, .int .i64 1, .string ⟨#[]⟩, .slice none 0 0, .int .i64 0, .int .i64 0, .string ⟨#[]⟩, .slice none 0 0, .slice none 0 0, .slice none 0 0], 44)]⟩, ⟨fun ρ => .agg #[.string ⟨#[112]⟩, .slice none 0 0, .slice (some ⟨(ρ 0), 0, none⟩) 4 4], [(0, fun ρ => (rowP m1 (ρ 1) (ρ 2)), 44), (1, fun _ => #[.int .i64 2, .int .i64 0, .string ⟨#[107]⟩, .slice none 0 0], 42), (2, fun _ => #[.int .i64 2, .string ⟨#[121]⟩, .int .i64 0, .int .i64 1, .int .i64 1, .string ⟨#[]⟩, .slice none 0 0, .int .i64 0, .int .i64 0, .string ⟨#[]⟩, .slice none 0 0, .slice none 0 0, .slice none 0 0], 44)]⟩, ⟨fun ρ => Value.pointer (some ⟨(ρ 0), 0, none⟩), [(0, fun _ => #[.string ⟨#[]⟩, .slice none 0 0, .slice none 0 0], 25)]⟩]) wb l w' [v0, v1, v2, v3, v4, v5, v6, v7, v8, v9, v10, v11, v12, v13, v14]) ∨ (On l 15 ∧ (∀ j, j < 15 → On l j) ∧ (∃ bA q0 q1 q2 : Nat, v14 = Value.pointer (some ⟨bA, 0, none⟩) ∧ Bx w' bA #[.string ⟨#[112]⟩, .slice none 0 0, .slice (some ⟨q0, 0, none⟩) 4 4] 25 ∧ Bx w' q0 (rowP m1 q1 q2) 44 ∧ Bx w' q1 #[.int .i64 2, .int .i64 0, .string ⟨#[107]⟩, .slice none 0 0] 42 ∧ Bx w' q2 #[.int .i64 2, .string ⟨#[121]⟩, .int .i64 0, .int .i64 1, .int .i64 1, .string ⟨#[]⟩, .slice none 0 0, .int .i64 0, .int .i64 0, .string ⟨#[]⟩, .slice none 0 0, .slice none 0 0, .slice none 0 0] 44 ∧ Below wb.heap.size wb w')))) (by kernel_rfl) ?_ ?_ ?_
  · intro l hl
    exact ⟨_, _, _, _, _, _, _, _, _, _, _, _, _, _, _, rfl, Or.inl ⟨hl 15, IS.start _ _ hl _⟩⟩
  · rintro l a w' ⟨v0, v1, v2, v3, v4, v5, v6, v7, v8, v9, v10, v11, v12, v13, v14, rfl, hF⟩ i hi h0 hall
    have hF2 : i < 15 → ¬ On l 15 ∧ IS (MP wb.heap.size [⟨fun _ => .agg #[.int .i64 2, .int .i64 0, .string ⟨#[107]⟩, .slice none 0 0], []⟩, ⟨fun ρ => .agg #[.int .i64 22, .int .i64 0, .string ⟨#[]⟩, .slice (some ⟨(ρ 0), 0, none⟩) 1 1], [(0, fun _ => #[.int .i64 2, .int .i64 0, .string ⟨#[107]⟩, .slice none 0 0], 42)]⟩, ⟨fun ρ => .agg #[.int .i64 1, .string ⟨#[120]⟩, .int .i64 0, .int .i64 22, .int .i64 0, .string ⟨#[]⟩, .slice (some ⟨(ρ 0), 0, none⟩) 1 1, .int .i64 0, .int .i64 0, .string ⟨#[]⟩, .slice none 0 0, .slice none 0 0, .slice none 0 0], [(0, fun _ => #[.int .i64 2, .int .i64 0, .string ⟨#[107]⟩, .slice none 0 0], 42)]⟩, ⟨fun _ => .agg #[.int .i64 1, .int .i64 1, .string ⟨#[]⟩, .slice none 0 0], []⟩, ⟨fun _ => .agg #[.int .i64 1, .string ⟨#[121]⟩, .int .i64 0, .int .i64 1, .int .i64 1, .string ⟨#[]⟩, .slice none 0 0, .int .i64 0, .int .i64 0, .string ⟨#[]⟩, .slice none 0 0, .slice none 0 0, .slice none 0 0], []⟩, ⟨fun _ => .agg #[.int .i64 1, .int .i64 1, .string ⟨#[]⟩, .slice none 0 0], []⟩, ⟨fun _ => .agg #[.int .i64 1, .string ⟨#[122]⟩, .int .i64 0, .int .i64 1, .int .i64 1, .string ⟨#[]⟩, .slice none 0 0, .int .i64 0, .int .i64 0, .string ⟨#[]⟩, .slice none 0 0, .slice none 0 0, .slice none 0 0], []⟩, ⟨fun _ => .agg #[.int .i64 14, .int .i64 0, .string ⟨#[]⟩, .slice (some ⟨m1, 0, none⟩) 2 2], []⟩, ⟨fun _ => .agg #[.int .i64 1, .int .i64 1, .string ⟨#[]⟩, .slice none 0 0], []⟩, ⟨fun _ => .agg #[.int .i64 2, .string ⟨#[121]⟩, .int .i64 0, .int .i64 1, .int .i64 1, .string ⟨#[]⟩, .slice none 0 0, .int .i64 0, .int .i64 0, .string ⟨#[]⟩, .slice none 0 0, .slice none 0 0, .slice none 0 0], []⟩, ⟨fun ρ => .slice (some ⟨(ρ 0), 0, none⟩) 1 1, [(0, fun _ => #[.int .i64 2, .string ⟨#[121]⟩, .int .i64 0, .int .i64 1, .int .i64 1, .string ⟨#[]⟩, .slice none 0 0, .int .i64 0, .int .i64 0, .string ⟨#[]⟩, .slice none 0 0, .slice none 0 0, .slice none 0 0], 44)]⟩, ⟨fun ρ => .agg #[.int .i64 5, .string ⟨#[]⟩, .int .i64 0, .int .i64 14, .int .i64 0, .string ⟨#[]⟩, .slice (some ⟨m1, 0, none⟩) 2 2, .int .i64 0, .int .i64 0, .string ⟨#[]⟩, .slice none 0 0, .slice (some ⟨(ρ 0), 0, none⟩) 1 1, .slice none 0 0], [(0, fun _ => #[.int .i64 2, .string ⟨#[121]⟩, .int .i64 0, .int .i64 1, .int .i64 1, .string ⟨#[]⟩, .slice none 0 0, .int .i64 0, .int .i64 0, .string ⟨#[]⟩, .slice none 0 0, .slice none 0 0, .slice none 0 0], 44)]⟩, ⟨fun ρ => .slice (some ⟨(ρ 0), 0, none⟩) 4 4, [(0, fun ρ => (rowP m1 (ρ 1) (ρ 2)), 44), (1, fun _ => #[.int .i64 2, .int .i64 0, .string ⟨#[107]⟩, .slice none 0 0], 42), (2, fun _ => #[.int .i64 2, .string ⟨#[121]⟩, .int .i64 0, .int .i64 1, .int .i64 1, .string ⟨#[]⟩, .slice none 0 0, .int .i64 0, .int .i64 0, .string ⟨#[]⟩, .slice none 0 0, .slice none 0 0, .slice none 0 0], 44)]⟩, ⟨fun ρ => .agg #[.string ⟨#[112]⟩, .slice none 0 0, .slice (some ⟨(ρ 0), 0, none⟩) 4 4], [(0, fun ρ => (rowP m1 (ρ 1) (ρ 2)), 44), (1, fun _ => #[.int .i64 2, .int .i64 0, .string ⟨#[107]⟩, .slice none 0 0], 42), (2, fun _ => #[.int .i64 2, .string ⟨#[121]⟩, .int .i64 0, .int .i64 1, .int .i64 1, .string ⟨#[]⟩, .slice none 0 0, .int .i64 0, .int .i64 0, .string ⟨#[]⟩, .slice none 0 0, .slice none 0 0, .slice none 0 0], 44)]⟩, ⟨fun ρ => Value.pointer (some ⟨(ρ 0), 0, none⟩), [(0, fun _ => #[.string ⟨#[]⟩, .slice none 0 0, .slice none 0 0], 25)]⟩]) wb l w' [v0, v1, v2, v3, v4, v5, v6, v7, v8, v9, v10, v11, v12, v13, v14] := fun h => hF.resolve_right (fun z => off_of h0 (z.2.1 i h))
    match i, hi, h0, hall, hF2 with
    | 0, _, h0, hall, hF2 =>
      obtain ⟨hnm, F⟩ := hF2 (by decide)
      have HNm : Hid (¬ On (l.setIfInBounds 0 true) 15) := fun z => hnm (((on_set h0 15).1 z).resolve_left (by decide))
      clear hF hF2 hnm
      have hsz : wb.heap.size ≤ w'.heap.size := F.bel.size
      have HC := Lib.hid (ltext_any ⟨#[107]⟩ w')
      have HS := Lib.hid hsz
      have HF := Lib.hid (fun w'' hb x hx => F.step MP.mono h0 (show 0 < 15 by decide) (w' := w'') hb (x := x) hx)
      clear F hall h0 hsz
      refine wpOp_step (by rfl) (fun K' hK => ?_)
      have HKk := Lib.hid hK
      clear hK
      go_simp
      go_at_call 32
      refine HC.out.mono ?_; rintro e' w5 ⟨rfl, hb5⟩
      have HF5 := Lib.hid (HF.out w5 hb5 _ (show MC.holds wb.heap.size ⟨fun _ => .agg #[.int .i64 2, .int .i64 0, .string ⟨#[107]⟩, .slice none 0 0], []⟩ (.agg #[.int .i64 2, .int .i64 0, .string ⟨#[107]⟩, .slice none 0 0]) w5 from ⟨rho [], rfl, trivial⟩))
      exact HKk.out _ _ ⟨_, _, _, _, _, _, _, _, _, _, _, _, _, _, _, rfl, Or.inl ⟨HNm.out, HF5.out⟩⟩
    | 1, _, h0, hall, hF2 =>
      obtain ⟨hnm, F⟩ := hF2 (by decide)
      have HNm : Hid (¬ On (l.setIfInBounds 1 true) 15) := fun z => hnm (((on_set h0 15).1 z).resolve_left (by decide))
      clear hF hF2 hnm
      have hsz : wb.heap.size ≤ w'.heap.size := F.bel.size
      obtain rfl : v0 = .agg #[.int .i64 2, .int .i64 0, .string ⟨#[107]⟩, .slice none 0 0] := by
        obtain ⟨_, h, _⟩ : MC.holds wb.heap.size ⟨fun _ => .agg #[.int .i64 2, .int .i64 0, .string ⟨#[107]⟩, .slice none 0 0], []⟩ v0 w' := F.f 0 (hall 0 (by decide +kernel))
        exact h
      have HC := Lib.hid (lget_any 22 2 ⟨#[107]⟩ w')
      have HS := Lib.hid hsz
      have HF := Lib.hid (fun w'' hb x hx => F.step MP.mono h0 (show 1 < 15 by decide) (w' := w'') hb (x := x) hx)
      clear F hall h0 hsz
      refine wpOp_step (by rfl) (fun K' hK => ?_)
      have HKk := Lib.hid hK
      clear hK
      go_simp
      go_at_call 31
      refine HC.out.mono ?_; rintro e' w5 ⟨b5, rfl, hbb, hbx, hb5⟩
      have HF5 := Lib.hid (HF.out w5 hb5 _ (show MC.holds wb.heap.size ⟨fun ρ => .agg #[.int .i64 22, .int .i64 0, .string ⟨#[]⟩, .slice (some ⟨(ρ 0), 0, none⟩) 1 1], [(0, fun _ => #[.int .i64 2, .int .i64 0, .string ⟨#[107]⟩, .slice none 0 0], 42)]⟩ (.agg #[.int .i64 22, .int .i64 0, .string ⟨#[]⟩, .slice (some ⟨b5, 0, none⟩) 1 1]) w5 from ⟨rho [b5], rfl, ⟨Nat.le_trans HS.out hbb, hbx⟩, trivial⟩))
      exact HKk.out _ _ ⟨_, _, _, _, _, _, _, _, _, _, _, _, _, _, _, rfl, Or.inl ⟨HNm.out, HF5.out⟩⟩
    | 2, _, h0, hall, hF2 =>
      obtain ⟨hnm, F⟩ := hF2 (by decide)
      have HNm : Hid (¬ On (l.setIfInBounds 2 true) 15) := fun z => hnm (((on_set h0 15).1 z).resolve_left (by decide))
      clear hF hF2 hnm
      have hsz : wb.heap.size ≤ w'.heap.size := F.bel.size
      obtain ⟨g1_0, rfl, l1_0, x1_0⟩ : ∃ g1_0 : Nat, v1 = .agg #[.int .i64 22, .int .i64 0, .string ⟨#[]⟩, .slice (some ⟨g1_0, 0, none⟩) 1 1] ∧ wb.heap.size ≤ g1_0 ∧ Bx w' g1_0 #[.int .i64 2, .int .i64 0, .string ⟨#[107]⟩, .slice none 0 0] 42 := by
        obtain ⟨ρ, h, hm⟩ : MC.holds wb.heap.size ⟨fun ρ => .agg #[.int .i64 22, .int .i64 0, .string ⟨#[]⟩, .slice (some ⟨(ρ 0), 0, none⟩) 1 1], [(0, fun _ => #[.int .i64 2, .int .i64 0, .string ⟨#[107]⟩, .slice none 0 0], 42)]⟩ v1 w' := F.f 1 (hall 1 (by decide +kernel))
        exact ⟨ρ 0, h, hm.1.1, hm.1.2⟩
      have HF := Lib.hid (F.step MP.mono h0 (show 2 < 15 by decide) (Below.refl _ _) (x := .agg #[.int .i64 1, .string ⟨#[120]⟩, .int .i64 0, .int .i64 22, .int .i64 0, .string ⟨#[]⟩, .slice (some ⟨g1_0, 0, none⟩) 1 1, .int .i64 0, .int .i64 0, .string ⟨#[]⟩, .slice none 0 0, .slice none 0 0, .slice none 0 0]) (show MC.holds wb.heap.size ⟨fun ρ => .agg #[.int .i64 1, .string ⟨#[120]⟩, .int .i64 0, .int .i64 22, .int .i64 0, .string ⟨#[]⟩, .slice (some ⟨(ρ 0), 0, none⟩) 1 1, .int .i64 0, .int .i64 0, .string ⟨#[]⟩, .slice none 0 0, .slice none 0 0, .slice none 0 0], [(0, fun _ => #[.int .i64 2, .int .i64 0, .string ⟨#[107]⟩, .slice none 0 0], 42)]⟩ (.agg #[.int .i64 1, .string ⟨#[120]⟩, .int .i64 0, .int .i64 22, .int .i64 0, .string ⟨#[]⟩, .slice (some ⟨g1_0, 0, none⟩) 1 1, .int .i64 0, .int .i64 0, .string ⟨#[]⟩, .slice none 0 0, .slice none 0 0, .slice none 0 0]) w' from ⟨rho [g1_0], rfl, ⟨l1_0, x1_0⟩, trivial⟩))
      clear F hall h0 hsz
      refine wpOp_step (by rfl) (fun K' hK => ?_)
      have HKk := Lib.hid hK
      clear hK
      go_simp
      exact HKk.out _ _ ⟨_, _, _, _, _, _, _, _, _, _, _, _, _, _, _, rfl, Or.inl ⟨HNm.out, HF.out⟩⟩
    | 3, _, h0, hall, hF2 =>
      obtain ⟨hnm, F⟩ := hF2 (by decide)
      have HNm : Hid (¬ On (l.setIfInBounds 3 true) 15) := fun z => hnm (((on_set h0 15).1 z).resolve_left (by decide))
      clear hF hF2 hnm
      have hsz : wb.heap.size ≤ w'.heap.size := F.bel.size
      have y0 := (HB1b.out.below F.bel).cell 0
      have y1 := (HB1b.out.below F.bel).cell 1
      have y2 := (HB1b.out.below F.bel).cell 2
      have y3 := (HB1b.out.below F.bel).cell 3
      simp only [List.getElem?_toArray, List.getElem?_cons_zero, List.getElem?_cons_succ] at y0 y1 y2 y3
      have HF := Lib.hid (F.step MP.mono h0 (show 3 < 15 by decide) (Below.refl _ _) (x := .agg #[.int .i64 1, .int .i64 1, .string ⟨#[]⟩, .slice none 0 0]) (show MC.holds wb.heap.size ⟨fun _ => .agg #[.int .i64 1, .int .i64 1, .string ⟨#[]⟩, .slice none 0 0], []⟩ (.agg #[.int .i64 1, .int .i64 1, .string ⟨#[]⟩, .slice none 0 0]) w' from ⟨rho [], rfl, trivial⟩))
      clear F hall h0 hsz
      refine wpOp_step (by rfl) (fun K' hK => ?_)
      have HKk := Lib.hid hK
      clear hK
      go_simp
      exact HKk.out _ _ ⟨_, _, _, _, _, _, _, _, _, _, _, _, _, _, _, rfl, Or.inl ⟨HNm.out, HF.out⟩⟩
    | 4, _, h0, hall, hF2 =>
      obtain ⟨hnm, F⟩ := hF2 (by decide)
      have HNm : Hid (¬ On (l.setIfInBounds 4 true) 15) := fun z => hnm (((on_set h0 15).1 z).resolve_left (by decide))
      clear hF hF2 hnm
      have hsz : wb.heap.size ≤ w'.heap.size := F.bel.size
      obtain rfl : v3 = .agg #[.int .i64 1, .int .i64 1, .string ⟨#[]⟩, .slice none 0 0] := by
        obtain ⟨_, h, _⟩ : MC.holds wb.heap.size ⟨fun _ => .agg #[.int .i64 1, .int .i64 1, .string ⟨#[]⟩, .slice none 0 0], []⟩ v3 w' := F.f 3 (hall 3 (by decide +kernel))
        exact h
      have HF := Lib.hid (F.step MP.mono h0 (show 4 < 15 by decide) (Below.refl _ _) (x := .agg #[.int .i64 1, .string ⟨#[121]⟩, .int .i64 0, .int .i64 1, .int .i64 1, .string ⟨#[]⟩, .slice none 0 0, .int .i64 0, .int .i64 0, .string ⟨#[]⟩, .slice none 0 0, .slice none 0 0, .slice none 0 0]) (show MC.holds wb.heap.size ⟨fun _ => .agg #[.int .i64 1, .string ⟨#[121]⟩, .int .i64 0, .int .i64 1, .int .i64 1, .string ⟨#[]⟩, .slice none 0 0, .int .i64 0, .int .i64 0, .string ⟨#[]⟩, .slice none 0 0, .slice none 0 0, .slice none 0 0], []⟩ (.agg #[.int .i64 1, .string ⟨#[121]⟩, .int .i64 0, .int .i64 1, .int .i64 1, .string ⟨#[]⟩, .slice none 0 0, .int .i64 0, .int .i64 0, .string ⟨#[]⟩, .slice none 0 0, .slice none 0 0, .slice none 0 0]) w' from ⟨rho [], rfl, trivial⟩))
      clear F hall h0 hsz
      refine wpOp_step (by rfl) (fun K' hK => ?_)
      have HKk := Lib.hid hK
      clear hK
      go_simp
      exact HKk.out _ _ ⟨_, _, _, _, _, _, _, _, _, _, _, _, _, _, _, rfl, Or.inl ⟨HNm.out, HF.out⟩⟩
    | 5, _, h0, hall, hF2 =>
      obtain ⟨hnm, F⟩ := hF2 (by decide)
      have HNm : Hid (¬ On (l.setIfInBounds 5 true) 15) := fun z => hnm (((on_set h0 15).1 z).resolve_left (by decide))
      clear hF hF2 hnm
      have hsz : wb.heap.size ≤ w'.heap.size := F.bel.size
      have y0 := (HB1b.out.below F.bel).cell 0
      have y1 := (HB1b.out.below F.bel).cell 1
      have y2 := (HB1b.out.below F.bel).cell 2
      have y3 := (HB1b.out.below F.bel).cell 3
      simp only [List.getElem?_toArray, List.getElem?_cons_zero, List.getElem?_cons_succ] at y0 y1 y2 y3
      have HF := Lib.hid (F.step MP.mono h0 (show 5 < 15 by decide) (Below.refl _ _) (x := .agg #[.int .i64 1, .int .i64 1, .string ⟨#[]⟩, .slice none 0 0]) (show MC.holds wb.heap.size ⟨fun _ => .agg #[.int .i64 1, .int .i64 1, .string ⟨#[]⟩, .slice none 0 0], []⟩ (.agg #[.int .i64 1, .int .i64 1, .string ⟨#[]⟩, .slice none 0 0]) w' from ⟨rho [], rfl, trivial⟩))
      clear F hall h0 hsz
      refine wpOp_step (by rfl) (fun K' hK => ?_)
      have HKk := Lib.hid hK
      clear hK
      go_simp
      exact HKk.out _ _ ⟨_, _, _, _, _, _, _, _, _, _, _, _, _, _, _, rfl, Or.inl ⟨HNm.out, HF.out⟩⟩
    | 6, _, h0, hall, hF2 =>
      obtain ⟨hnm, F⟩ := hF2 (by decide)
      have HNm : Hid (¬ On (l.setIfInBounds 6 true) 15) := fun z => hnm (((on_set h0 15).1 z).resolve_left (by decide))
      clear hF hF2 hnm
      have hsz : wb.heap.size ≤ w'.heap.size := F.bel.size
      obtain rfl : v5 = .agg #[.int .i64 1, .int .i64 1, .string ⟨#[]⟩, .slice none 0 0] := by
        obtain ⟨_, h, _⟩ : MC.holds wb.heap.size ⟨fun _ => .agg #[.int .i64 1, .int .i64 1, .string ⟨#[]⟩, .slice none 0 0], []⟩ v5 w' := F.f 5 (hall 5 (by decide +kernel))
        exact h
      have HF := Lib.hid (F.step MP.mono h0 (show 6 < 15 by decide) (Below.refl _ _) (x := .agg #[.int .i64 1, .string ⟨#[122]⟩, .int .i64 0, .int .i64 1, .int .i64 1, .string ⟨#[]⟩, .slice none 0 0, .int .i64 0, .int .i64 0, .string ⟨#[]⟩, .slice none 0 0, .slice none 0 0, .slice none 0 0]) (show MC.holds wb.heap.size ⟨fun _ => .agg #[.int .i64 1, .string ⟨#[122]⟩, .int .i64 0, .int .i64 1, .int .i64 1, .string ⟨#[]⟩, .slice none 0 0, .int .i64 0, .int .i64 0, .string ⟨#[]⟩, .slice none 0 0, .slice none 0 0, .slice none 0 0], []⟩ (.agg #[.int .i64 1, .string ⟨#[122]⟩, .int .i64 0, .int .i64 1, .int .i64 1, .string ⟨#[]⟩, .slice none 0 0, .int .i64 0, .int .i64 0, .string ⟨#[]⟩, .slice none 0 0, .slice none 0 0, .slice none 0 0]) w' from ⟨rho [], rfl, trivial⟩))
      clear F hall h0 hsz
      refine wpOp_step (by rfl) (fun K' hK => ?_)
      have HKk := Lib.hid hK
      clear hK
      go_simp
      exact HKk.out _ _ ⟨_, _, _, _, _, _, _, _, _, _, _, _, _, _, _, rfl, Or.inl ⟨HNm.out, HF.out⟩⟩
    | 7, _, h0, hall, hF2 =>
      obtain ⟨hnm, F⟩ := hF2 (by decide)
      have HNm : Hid (¬ On (l.setIfInBounds 7 true) 15) := fun z => hnm (((on_set h0 15).1 z).resolve_left (by decide))
      clear hF hF2 hnm
      have hsz : wb.heap.size ≤ w'.heap.size := F.bel.size
      have y0 := (HB2.out.below F.bel).cell 0
      have y1 := (HB2.out.below F.bel).cell 1
      have y2 := (HB2.out.below F.bel).cell 2
      have y3 := (HB2.out.below F.bel).cell 3
      simp only [List.getElem?_toArray, List.getElem?_cons_zero, List.getElem?_cons_succ] at y0 y1 y2 y3
      have HF := Lib.hid (F.step MP.mono h0 (show 7 < 15 by decide) (Below.refl _ _) (x := .agg #[.int .i64 14, .int .i64 0, .string ⟨#[]⟩, .slice (some ⟨m1, 0, none⟩) 2 2]) (show MC.holds wb.heap.size ⟨fun _ => .agg #[.int .i64 14, .int .i64 0, .string ⟨#[]⟩, .slice (some ⟨m1, 0, none⟩) 2 2], []⟩ (.agg #[.int .i64 14, .int .i64 0, .string ⟨#[]⟩, .slice (some ⟨m1, 0, none⟩) 2 2]) w' from ⟨rho [], rfl, trivial⟩))
      clear F hall h0 hsz
      refine wpOp_step (by rfl) (fun K' hK => ?_)
      have HKk := Lib.hid hK
      clear hK
      go_simp
      exact HKk.out _ _ ⟨_, _, _, _, _, _, _, _, _, _, _, _, _, _, _, rfl, Or.inl ⟨HNm.out, HF.out⟩⟩
    | 8, _, h0, hall, hF2 =>
      obtain ⟨hnm, F⟩ := hF2 (by decide)
      have HNm : Hid (¬ On (l.setIfInBounds 8 true) 15) := fun z => hnm (((on_set h0 15).1 z).resolve_left (by decide))
      clear hF hF2 hnm
      have hsz : wb.heap.size ≤ w'.heap.size := F.bel.size
      have y0 := (HB1b.out.below F.bel).cell 0
      have y1 := (HB1b.out.below F.bel).cell 1
      have y2 := (HB1b.out.below F.bel).cell 2
      have y3 := (HB1b.out.below F.bel).cell 3
      simp only [List.getElem?_toArray, List.getElem?_cons_zero, List.getElem?_cons_succ] at y0 y1 y2 y3
      have HF := Lib.hid (F.step MP.mono h0 (show 8 < 15 by decide) (Below.refl _ _) (x := .agg #[.int .i64 1, .int .i64 1, .string ⟨#[]⟩, .slice none 0 0]) (show MC.holds wb.heap.size ⟨fun _ => .agg #[.int .i64 1, .int .i64 1, .string ⟨#[]⟩, .slice none 0 0], []⟩ (.agg #[.int .i64 1, .int .i64 1, .string ⟨#[]⟩, .slice none 0 0]) w' from ⟨rho [], rfl, trivial⟩))
      clear F hall h0 hsz
      refine wpOp_step (by rfl) (fun K' hK => ?_)
      have HKk := Lib.hid hK
      clear hK
      go_simp
      exact HKk.out _ _ ⟨_, _, _, _, _, _, _, _, _, _, _, _, _, _, _, rfl, Or.inl ⟨HNm.out, HF.out⟩⟩
    | 9, _, h0, hall, hF2 =>
      obtain ⟨hnm, F⟩ := hF2 (by decide)
      have HNm : Hid (¬ On (l.setIfInBounds 9 true) 15) := fun z => hnm (((on_set h0 15).1 z).resolve_left (by decide))
      clear hF hF2 hnm
      have hsz : wb.heap.size ≤ w'.heap.size := F.bel.size
      obtain rfl : v8 = .agg #[.int .i64 1, .int .i64 1, .string ⟨#[]⟩, .slice none 0 0] := by
        obtain ⟨_, h, _⟩ : MC.holds wb.heap.size ⟨fun _ => .agg #[.int .i64 1, .int .i64 1, .string ⟨#[]⟩, .slice none 0 0], []⟩ v8 w' := F.f 8 (hall 8 (by decide +kernel))
        exact h
      have HF := Lib.hid (F.step MP.mono h0 (show 9 < 15 by decide) (Below.refl _ _) (x := .agg #[.int .i64 2, .string ⟨#[121]⟩, .int .i64 0, .int .i64 1, .int .i64 1, .string ⟨#[]⟩, .slice none 0 0, .int .i64 0, .int .i64 0, .string ⟨#[]⟩, .slice none 0 0, .slice none 0 0, .slice none 0 0]) (show MC.holds wb.heap.size ⟨fun _ => .agg #[.int .i64 2, .string ⟨#[121]⟩, .int .i64 0, .int .i64 1, .int .i64 1, .string ⟨#[]⟩, .slice none 0 0, .int .i64 0, .int .i64 0, .string ⟨#[]⟩, .slice none 0 0, .slice none 0 0, .slice none 0 0], []⟩ (.agg #[.int .i64 2, .string ⟨#[121]⟩, .int .i64 0, .int .i64 1, .int .i64 1, .string ⟨#[]⟩, .slice none 0 0, .int .i64 0, .int .i64 0, .string ⟨#[]⟩, .slice none 0 0, .slice none 0 0, .slice none 0 0]) w' from ⟨rho [], rfl, trivial⟩))
      clear F hall h0 hsz
      refine wpOp_step (by rfl) (fun K' hK => ?_)
      have HKk := Lib.hid hK
      clear hK
      go_simp
      exact HKk.out _ _ ⟨_, _, _, _, _, _, _, _, _, _, _, _, _, _, _, rfl, Or.inl ⟨HNm.out, HF.out⟩⟩
    | 10, _, h0, hall, hF2 =>
      obtain ⟨hnm, F⟩ := hF2 (by decide)
      have HNm : Hid (¬ On (l.setIfInBounds 10 true) 15) := fun z => hnm (((on_set h0 15).1 z).resolve_left (by decide))
      clear hF hF2 hnm
      have hsz : wb.heap.size ≤ w'.heap.size := F.bel.size
      obtain rfl : v9 = .agg #[.int .i64 2, .string ⟨#[121]⟩, .int .i64 0, .int .i64 1, .int .i64 1, .string ⟨#[]⟩, .slice none 0 0, .int .i64 0, .int .i64 0, .string ⟨#[]⟩, .slice none 0 0, .slice none 0 0, .slice none 0 0] := by
        obtain ⟨_, h, _⟩ : MC.holds wb.heap.size ⟨fun _ => .agg #[.int .i64 2, .string ⟨#[121]⟩, .int .i64 0, .int .i64 1, .int .i64 1, .string ⟨#[]⟩, .slice none 0 0, .int .i64 0, .int .i64 0, .string ⟨#[]⟩, .slice none 0 0, .slice none 0 0, .slice none 0 0], []⟩ v9 w' := F.f 9 (hall 9 (by decide +kernel))
        exact h
      have HF := Lib.hid (F.step MP.mono h0 (show 10 < 15 by decide) (w' := w'.alloc (.cells #[.int .i64 2, .string ⟨#[121]⟩, .int .i64 0, .int .i64 1, .int .i64 1, .string ⟨#[]⟩, .slice none 0 0, .int .i64 0, .int .i64 0, .string ⟨#[]⟩, .slice none 0 0, .slice none 0 0, .slice none 0 0] 44)) (below_box _ _) (x := .slice (some ⟨w'.heap.size, 0, none⟩) 1 1) (show MC.holds wb.heap.size ⟨fun ρ => .slice (some ⟨(ρ 0), 0, none⟩) 1 1, [(0, fun _ => #[.int .i64 2, .string ⟨#[121]⟩, .int .i64 0, .int .i64 1, .int .i64 1, .string ⟨#[]⟩, .slice none 0 0, .int .i64 0, .int .i64 0, .string ⟨#[]⟩, .slice none 0 0, .slice none 0 0, .slice none 0 0], 44)]⟩ (.slice (some ⟨w'.heap.size, 0, none⟩) 1 1) (w'.alloc (.cells #[.int .i64 2, .string ⟨#[121]⟩, .int .i64 0, .int .i64 1, .int .i64 1, .string ⟨#[]⟩, .slice none 0 0, .int .i64 0, .int .i64 0, .string ⟨#[]⟩, .slice none 0 0, .slice none 0 0, .slice none 0 0] 44)) from ⟨rho [w'.heap.size], rfl, ⟨hsz, Bx.new _ _ _⟩, trivial⟩))
      clear F hall h0 hsz
      refine wpOp_step (by rfl) (fun K' hK => ?_)
      have HKk := Lib.hid hK
      clear hK
      go_simp
      exact HKk.out _ _ ⟨_, _, _, _, _, _, _, _, _, _, _, _, _, _, _, rfl, Or.inl ⟨HNm.out, HF.out⟩⟩
    | 11, _, h0, hall, hF2 =>
      obtain ⟨hnm, F⟩ := hF2 (by decide)
      have HNm : Hid (¬ On (l.setIfInBounds 11 true) 15) := fun z => hnm (((on_set h0 15).1 z).resolve_left (by decide))
      clear hF hF2 hnm
      have hsz : wb.heap.size ≤ w'.heap.size := F.bel.size
      obtain rfl : v7 = .agg #[.int .i64 14, .int .i64 0, .string ⟨#[]⟩, .slice (some ⟨m1, 0, none⟩) 2 2] := by
        obtain ⟨_, h, _⟩ : MC.holds wb.heap.size ⟨fun _ => .agg #[.int .i64 14, .int .i64 0, .string ⟨#[]⟩, .slice (some ⟨m1, 0, none⟩) 2 2], []⟩ v7 w' := F.f 7 (hall 7 (by decide +kernel))
        exact h
      obtain ⟨g10_0, rfl, l10_0, x10_0⟩ : ∃ g10_0 : Nat, v10 = .slice (some ⟨g10_0, 0, none⟩) 1 1 ∧ wb.heap.size ≤ g10_0 ∧ Bx w' g10_0 #[.int .i64 2, .string ⟨#[121]⟩, .int .i64 0, .int .i64 1, .int .i64 1, .string ⟨#[]⟩, .slice none 0 0, .int .i64 0, .int .i64 0, .string ⟨#[]⟩, .slice none 0 0, .slice none 0 0, .slice none 0 0] 44 := by
        obtain ⟨ρ, h, hm⟩ : MC.holds wb.heap.size ⟨fun ρ => .slice (some ⟨(ρ 0), 0, none⟩) 1 1, [(0, fun _ => #[.int .i64 2, .string ⟨#[121]⟩, .int .i64 0, .int .i64 1, .int .i64 1, .string ⟨#[]⟩, .slice none 0 0, .int .i64 0, .int .i64 0, .string ⟨#[]⟩, .slice none 0 0, .slice none 0 0, .slice none 0 0], 44)]⟩ v10 w' := F.f 10 (hall 10 (by decide +kernel))
        exact ⟨ρ 0, h, hm.1.1, hm.1.2⟩
      have HF := Lib.hid (F.step MP.mono h0 (show 11 < 15 by decide) (Below.refl _ _) (x := .agg #[.int .i64 5, .string ⟨#[]⟩, .int .i64 0, .int .i64 14, .int .i64 0, .string ⟨#[]⟩, .slice (some ⟨m1, 0, none⟩) 2 2, .int .i64 0, .int .i64 0, .string ⟨#[]⟩, .slice none 0 0, .slice (some ⟨g10_0, 0, none⟩) 1 1, .slice none 0 0]) (show MC.holds wb.heap.size ⟨fun ρ => .agg #[.int .i64 5, .string ⟨#[]⟩, .int .i64 0, .int .i64 14, .int .i64 0, .string ⟨#[]⟩, .slice (some ⟨m1, 0, none⟩) 2 2, .int .i64 0, .int .i64 0, .string ⟨#[]⟩, .slice none 0 0, .slice (some ⟨(ρ 0), 0, none⟩) 1 1, .slice none 0 0], [(0, fun _ => #[.int .i64 2, .string ⟨#[121]⟩, .int .i64 0, .int .i64 1, .int .i64 1, .string ⟨#[]⟩, .slice none 0 0, .int .i64 0, .int .i64 0, .string ⟨#[]⟩, .slice none 0 0, .slice none 0 0, .slice none 0 0], 44)]⟩ (.agg #[.int .i64 5, .string ⟨#[]⟩, .int .i64 0, .int .i64 14, .int .i64 0, .string ⟨#[]⟩, .slice (some ⟨m1, 0, none⟩) 2 2, .int .i64 0, .int .i64 0, .string ⟨#[]⟩, .slice none 0 0, .slice (some ⟨g10_0, 0, none⟩) 1 1, .slice none 0 0]) w' from ⟨rho [g10_0], rfl, ⟨l10_0, x10_0⟩, trivial⟩))
      clear F hall h0 hsz
      refine wpOp_step (by rfl) (fun K' hK => ?_)
      have HKk := Lib.hid hK
      clear hK
      go_simp
      exact HKk.out _ _ ⟨_, _, _, _, _, _, _, _, _, _, _, _, _, _, _, rfl, Or.inl ⟨HNm.out, HF.out⟩⟩
    | 12, _, h0, hall, hF2 =>
      obtain ⟨hnm, F⟩ := hF2 (by decide)
      have HNm : Hid (¬ On (l.setIfInBounds 12 true) 15) := fun z => hnm (((on_set h0 15).1 z).resolve_left (by decide))
      clear hF hF2 hnm
      have hsz : wb.heap.size ≤ w'.heap.size := F.bel.size
      obtain ⟨g2_0, rfl, l2_0, x2_0⟩ : ∃ g2_0 : Nat, v2 = .agg #[.int .i64 1, .string ⟨#[120]⟩, .int .i64 0, .int .i64 22, .int .i64 0, .string ⟨#[]⟩, .slice (some ⟨g2_0, 0, none⟩) 1 1, .int .i64 0, .int .i64 0, .string ⟨#[]⟩, .slice none 0 0, .slice none 0 0, .slice none 0 0] ∧ wb.heap.size ≤ g2_0 ∧ Bx w' g2_0 #[.int .i64 2, .int .i64 0, .string ⟨#[107]⟩, .slice none 0 0] 42 := by
        obtain ⟨ρ, h, hm⟩ : MC.holds wb.heap.size ⟨fun ρ => .agg #[.int .i64 1, .string ⟨#[120]⟩, .int .i64 0, .int .i64 22, .int .i64 0, .string ⟨#[]⟩, .slice (some ⟨(ρ 0), 0, none⟩) 1 1, .int .i64 0, .int .i64 0, .string ⟨#[]⟩, .slice none 0 0, .slice none 0 0, .slice none 0 0], [(0, fun _ => #[.int .i64 2, .int .i64 0, .string ⟨#[107]⟩, .slice none 0 0], 42)]⟩ v2 w' := F.f 2 (hall 2 (by decide +kernel))
        exact ⟨ρ 0, h, hm.1.1, hm.1.2⟩
      obtain rfl : v4 = .agg #[.int .i64 1, .string ⟨#[121]⟩, .int .i64 0, .int .i64 1, .int .i64 1, .string ⟨#[]⟩, .slice none 0 0, .int .i64 0, .int .i64 0, .string ⟨#[]⟩, .slice none 0 0, .slice none 0 0, .slice none 0 0] := by
        obtain ⟨_, h, _⟩ : MC.holds wb.heap.size ⟨fun _ => .agg #[.int .i64 1, .string ⟨#[121]⟩, .int .i64 0, .int .i64 1, .int .i64 1, .string ⟨#[]⟩, .slice none 0 0, .int .i64 0, .int .i64 0, .string ⟨#[]⟩, .slice none 0 0, .slice none 0 0, .slice none 0 0], []⟩ v4 w' := F.f 4 (hall 4 (by decide +kernel))
        exact h
      obtain rfl : v6 = .agg #[.int .i64 1, .string ⟨#[122]⟩, .int .i64 0, .int .i64 1, .int .i64 1, .string ⟨#[]⟩, .slice none 0 0, .int .i64 0, .int .i64 0, .string ⟨#[]⟩, .slice none 0 0, .slice none 0 0, .slice none 0 0] := by
        obtain ⟨_, h, _⟩ : MC.holds wb.heap.size ⟨fun _ => .agg #[.int .i64 1, .string ⟨#[122]⟩, .int .i64 0, .int .i64 1, .int .i64 1, .string ⟨#[]⟩, .slice none 0 0, .int .i64 0, .int .i64 0, .string ⟨#[]⟩, .slice none 0 0, .slice none 0 0, .slice none 0 0], []⟩ v6 w' := F.f 6 (hall 6 (by decide +kernel))
        exact h
      obtain ⟨g11_0, rfl, l11_0, x11_0⟩ : ∃ g11_0 : Nat, v11 = .agg #[.int .i64 5, .string ⟨#[]⟩, .int .i64 0, .int .i64 14, .int .i64 0, .string ⟨#[]⟩, .slice (some ⟨m1, 0, none⟩) 2 2, .int .i64 0, .int .i64 0, .string ⟨#[]⟩, .slice none 0 0, .slice (some ⟨g11_0, 0, none⟩) 1 1, .slice none 0 0] ∧ wb.heap.size ≤ g11_0 ∧ Bx w' g11_0 #[.int .i64 2, .string ⟨#[121]⟩, .int .i64 0, .int .i64 1, .int .i64 1, .string ⟨#[]⟩, .slice none 0 0, .int .i64 0, .int .i64 0, .string ⟨#[]⟩, .slice none 0 0, .slice none 0 0, .slice none 0 0] 44 := by
        obtain ⟨ρ, h, hm⟩ : MC.holds wb.heap.size ⟨fun ρ => .agg #[.int .i64 5, .string ⟨#[]⟩, .int .i64 0, .int .i64 14, .int .i64 0, .string ⟨#[]⟩, .slice (some ⟨m1, 0, none⟩) 2 2, .int .i64 0, .int .i64 0, .string ⟨#[]⟩, .slice none 0 0, .slice (some ⟨(ρ 0), 0, none⟩) 1 1, .slice none 0 0], [(0, fun _ => #[.int .i64 2, .string ⟨#[121]⟩, .int .i64 0, .int .i64 1, .int .i64 1, .string ⟨#[]⟩, .slice none 0 0, .int .i64 0, .int .i64 0, .string ⟨#[]⟩, .slice none 0 0, .slice none 0 0, .slice none 0 0], 44)]⟩ v11 w' := F.f 11 (hall 11 (by decide +kernel))
        exact ⟨ρ 0, h, hm.1.1, hm.1.2⟩
      have HF := Lib.hid (F.step MP.mono h0 (show 12 < 15 by decide) (w' := w'.alloc (.cells (rowP m1 g2_0 g11_0) 44)) (below_box _ _) (x := .slice (some ⟨w'.heap.size, 0, none⟩) 4 4) (show MC.holds wb.heap.size ⟨fun ρ => .slice (some ⟨(ρ 0), 0, none⟩) 4 4, [(0, fun ρ => (rowP m1 (ρ 1) (ρ 2)), 44), (1, fun _ => #[.int .i64 2, .int .i64 0, .string ⟨#[107]⟩, .slice none 0 0], 42), (2, fun _ => #[.int .i64 2, .string ⟨#[121]⟩, .int .i64 0, .int .i64 1, .int .i64 1, .string ⟨#[]⟩, .slice none 0 0, .int .i64 0, .int .i64 0, .string ⟨#[]⟩, .slice none 0 0, .slice none 0 0, .slice none 0 0], 44)]⟩ (.slice (some ⟨w'.heap.size, 0, none⟩) 4 4) (w'.alloc (.cells (rowP m1 g2_0 g11_0) 44)) from ⟨rho [w'.heap.size, g2_0, g11_0], rfl, ⟨hsz, Bx.new _ _ _⟩, ⟨l2_0, x2_0.below (below_box _ _)⟩, ⟨l11_0, x11_0.below (below_box _ _)⟩, trivial⟩))
      clear F hall h0 hsz
      refine wpOp_step (by rfl) (fun K' hK => ?_)
      have HKk := Lib.hid hK
      clear hK
      go_simp
      exact HKk.out _ _ ⟨_, _, _, _, _, _, _, _, _, _, _, _, _, _, _, rfl, Or.inl ⟨HNm.out, HF.out⟩⟩
    | 13, _, h0, hall, hF2 =>
      obtain ⟨hnm, F⟩ := hF2 (by decide)
      have HNm : Hid (¬ On (l.setIfInBounds 13 true) 15) := fun z => hnm (((on_set h0 15).1 z).resolve_left (by decide))
      clear hF hF2 hnm
      have hsz : wb.heap.size ≤ w'.heap.size := F.bel.size
      obtain ⟨g12_0, g12_1, g12_2, rfl, l12_0, x12_0, l12_1, x12_1, l12_2, x12_2⟩ : ∃ g12_0 g12_1 g12_2 : Nat, v12 = .slice (some ⟨g12_0, 0, none⟩) 4 4 ∧ wb.heap.size ≤ g12_0 ∧ Bx w' g12_0 (rowP m1 g12_1 g12_2) 44 ∧ wb.heap.size ≤ g12_1 ∧ Bx w' g12_1 #[.int .i64 2, .int .i64 0, .string ⟨#[107]⟩, .slice none 0 0] 42 ∧ wb.heap.size ≤ g12_2 ∧ Bx w' g12_2 #[.int .i64 2, .string ⟨#[121]⟩, .int .i64 0, .int .i64 1, .int .i64 1, .string ⟨#[]⟩, .slice none 0 0, .int .i64 0, .int .i64 0, .string ⟨#[]⟩, .slice none 0 0, .slice none 0 0, .slice none 0 0] 44 := by
        obtain ⟨ρ, h, hm⟩ : MC.holds wb.heap.size ⟨fun ρ => .slice (some ⟨(ρ 0), 0, none⟩) 4 4, [(0, fun ρ => (rowP m1 (ρ 1) (ρ 2)), 44), (1, fun _ => #[.int .i64 2, .int .i64 0, .string ⟨#[107]⟩, .slice none 0 0], 42), (2, fun _ => #[.int .i64 2, .string ⟨#[121]⟩, .int .i64 0, .int .i64 1, .int .i64 1, .string ⟨#[]⟩, .slice none 0 0, .int .i64 0, .int .i64 0, .string ⟨#[]⟩, .slice none 0 0, .slice none 0 0, .slice none 0 0], 44)]⟩ v12 w' := F.f 12 (hall 12 (by decide +kernel))
        exact ⟨ρ 0, ρ 1, ρ 2, h, hm.1.1, hm.1.2, hm.2.1.1, hm.2.1.2, hm.2.2.1.1, hm.2.2.1.2⟩
      have HF := Lib.hid (F.step MP.mono h0 (show 13 < 15 by decide) (Below.refl _ _) (x := .agg #[.string ⟨#[112]⟩, .slice none 0 0, .slice (some ⟨g12_0, 0, none⟩) 4 4]) (show MC.holds wb.heap.size ⟨fun ρ => .agg #[.string ⟨#[112]⟩, .slice none 0 0, .slice (some ⟨(ρ 0), 0, none⟩) 4 4], [(0, fun ρ => (rowP m1 (ρ 1) (ρ 2)), 44), (1, fun _ => #[.int .i64 2, .int .i64 0, .string ⟨#[107]⟩, .slice none 0 0], 42), (2, fun _ => #[.int .i64 2, .string ⟨#[121]⟩, .int .i64 0, .int .i64 1, .int .i64 1, .string ⟨#[]⟩, .slice none 0 0, .int .i64 0, .int .i64 0, .string ⟨#[]⟩, .slice none 0 0, .slice none 0 0, .slice none 0 0], 44)]⟩ (.agg #[.string ⟨#[112]⟩, .slice none 0 0, .slice (some ⟨g12_0, 0, none⟩) 4 4]) w' from ⟨rho [g12_0, g12_1, g12_2], rfl, ⟨l12_0, x12_0⟩, ⟨l12_1, x12_1⟩, ⟨l12_2, x12_2⟩, trivial⟩))
      clear F hall h0 hsz
      refine wpOp_step (by rfl) (fun K' hK => ?_)
      have HKk := Lib.hid hK
      clear hK
      go_simp
      exact HKk.out _ _ ⟨_, _, _, _, _, _, _, _, _, _, _, _, _, _, _, rfl, Or.inl ⟨HNm.out, HF.out⟩⟩
    | 14, _, h0, hall, hF2 =>
      obtain ⟨hnm, F⟩ := hF2 (by decide)
      have HNm : Hid (¬ On (l.setIfInBounds 14 true) 15) := fun z => hnm (((on_set h0 15).1 z).resolve_left (by decide))
      clear hF hF2 hnm
      have hsz : wb.heap.size ≤ w'.heap.size := F.bel.size
      have HF := Lib.hid (F.step MP.mono h0 (show 14 < 15 by decide) (w' := w'.alloc (.cells #[.string ⟨#[]⟩, .slice none 0 0, .slice none 0 0] 25)) (below_box _ _) (x := Value.pointer (some ⟨w'.heap.size, 0, none⟩)) (show MC.holds wb.heap.size ⟨fun ρ => Value.pointer (some ⟨(ρ 0), 0, none⟩), [(0, fun _ => #[.string ⟨#[]⟩, .slice none 0 0, .slice none 0 0], 25)]⟩ (Value.pointer (some ⟨w'.heap.size, 0, none⟩)) (w'.alloc (.cells #[.string ⟨#[]⟩, .slice none 0 0, .slice none 0 0] 25)) from ⟨rho [w'.heap.size], rfl, ⟨hsz, Bx.new _ _ _⟩, trivial⟩))
      clear F hall h0 hsz
      refine wpOp_step (by rfl) (fun K' hK => ?_)
      have HKk := Lib.hid hK
      clear hK
      go_simp
      exact HKk.out _ _ ⟨_, _, _, _, _, _, _, _, _, _, _, _, _, _, _, rfl, Or.inl ⟨HNm.out, HF.out⟩⟩
    | 15, _, h0, hall, _ =>
      obtain ⟨_, F⟩ := hF.resolve_right (fun z => off_of h0 z.1)
      have hsz : wb.heap.size ≤ w'.heap.size := F.bel.size
      obtain ⟨g13_0, g13_1, g13_2, rfl, l13_0, x13_0, l13_1, x13_1, l13_2, x13_2⟩ : ∃ g13_0 g13_1 g13_2 : Nat, v13 = .agg #[.string ⟨#[112]⟩, .slice none 0 0, .slice (some ⟨g13_0, 0, none⟩) 4 4] ∧ wb.heap.size ≤ g13_0 ∧ Bx w' g13_0 (rowP m1 g13_1 g13_2) 44 ∧ wb.heap.size ≤ g13_1 ∧ Bx w' g13_1 #[.int .i64 2, .int .i64 0, .string ⟨#[107]⟩, .slice none 0 0] 42 ∧ wb.heap.size ≤ g13_2 ∧ Bx w' g13_2 #[.int .i64 2, .string ⟨#[121]⟩, .int .i64 0, .int .i64 1, .int .i64 1, .string ⟨#[]⟩, .slice none 0 0, .int .i64 0, .int .i64 0, .string ⟨#[]⟩, .slice none 0 0, .slice none 0 0, .slice none 0 0] 44 := by
        obtain ⟨ρ, h, hm⟩ : MC.holds wb.heap.size ⟨fun ρ => .agg #[.string ⟨#[112]⟩, .slice none 0 0, .slice (some ⟨(ρ 0), 0, none⟩) 4 4], [(0, fun ρ => (rowP m1 (ρ 1) (ρ 2)), 44), (1, fun _ => #[.int .i64 2, .int .i64 0, .string ⟨#[107]⟩, .slice none 0 0], 42), (2, fun _ => #[.int .i64 2, .string ⟨#[121]⟩, .int .i64 0, .int .i64 1, .int .i64 1, .string ⟨#[]⟩, .slice none 0 0, .int .i64 0, .int .i64 0, .string ⟨#[]⟩, .slice none 0 0, .slice none 0 0, .slice none 0 0], 44)]⟩ v13 w' := F.f 13 (hall 13 (by decide +kernel))
        exact ⟨ρ 0, ρ 1, ρ 2, h, hm.1.1, hm.1.2, hm.2.1.1, hm.2.1.2, hm.2.2.1.1, hm.2.2.1.2⟩
      obtain ⟨g14_0, rfl, l14_0, x14_0⟩ : ∃ g14_0 : Nat, v14 = Value.pointer (some ⟨g14_0, 0, none⟩) ∧ wb.heap.size ≤ g14_0 ∧ Bx w' g14_0 #[.string ⟨#[]⟩, .slice none 0 0, .slice none 0 0] 25 := by
        obtain ⟨ρ, h, hm⟩ : MC.holds wb.heap.size ⟨fun ρ => Value.pointer (some ⟨(ρ 0), 0, none⟩), [(0, fun _ => #[.string ⟨#[]⟩, .slice none 0 0, .slice none 0 0], 25)]⟩ v14 w' := F.f 14 (hall 14 (by decide +kernel))
        exact ⟨ρ 0, h, hm.1.1, hm.1.2⟩
      have HFin : Hid (On (l.setIfInBounds 15 true) 15 ∧ (∀ j, j < 15 → On (l.setIfInBounds 15 true) j) ∧ (∃ bA q0 q1 q2 : Nat, Value.pointer (some ⟨g14_0, 0, none⟩) = Value.pointer (some ⟨bA, 0, none⟩) ∧ Bx (((w'.setCell ⟨g14_0, 0, none⟩ (.string ⟨#[112]⟩)).setCell ⟨g14_0, 1, none⟩ (.slice none 0 0)).setCell ⟨g14_0, 2, none⟩ (.slice (some ⟨g13_0, 0, none⟩) 4 4)) bA #[.string ⟨#[112]⟩, .slice none 0 0, .slice (some ⟨q0, 0, none⟩) 4 4] 25 ∧ Bx (((w'.setCell ⟨g14_0, 0, none⟩ (.string ⟨#[112]⟩)).setCell ⟨g14_0, 1, none⟩ (.slice none 0 0)).setCell ⟨g14_0, 2, none⟩ (.slice (some ⟨g13_0, 0, none⟩) 4 4)) q0 (rowP m1 q1 q2) 44 ∧ Bx (((w'.setCell ⟨g14_0, 0, none⟩ (.string ⟨#[112]⟩)).setCell ⟨g14_0, 1, none⟩ (.slice none 0 0)).setCell ⟨g14_0, 2, none⟩ (.slice (some ⟨g13_0, 0, none⟩) 4 4)) q1 #[.int .i64 2, .int .i64 0, .string ⟨#[107]⟩, .slice none 0 0] 42 ∧ Bx (((w'.setCell ⟨g14_0, 0, none⟩ (.string ⟨#[112]⟩)).setCell ⟨g14_0, 1, none⟩ (.slice none 0 0)).setCell ⟨g14_0, 2, none⟩ (.slice (some ⟨g13_0, 0, none⟩) 4 4)) q2 #[.int .i64 2, .string ⟨#[121]⟩, .int .i64 0, .int .i64 1, .int .i64 1, .string ⟨#[]⟩, .slice none 0 0, .int .i64 0, .int .i64 0, .string ⟨#[]⟩, .slice none 0 0, .slice none 0 0, .slice none 0 0] 44 ∧ Below wb.heap.size wb (((w'.setCell ⟨g14_0, 0, none⟩ (.string ⟨#[112]⟩)).setCell ⟨g14_0, 1, none⟩ (.slice none 0 0)).setCell ⟨g14_0, 2, none⟩ (.slice (some ⟨g13_0, 0, none⟩) 4 4)))) :=
        ⟨(on_set h0 15).2 (Or.inl rfl), (fun j hj => by
          refine (on_set h0 j).2 (Or.inr (hall j ?_))
          revert hj
          revert j
          decide +kernel), ⟨g14_0, g13_0, g13_1, g13_2, rfl, (((x14_0.set 0).set 1).set 2), (bx_off (bx_off (bx_off x13_0 (bx_ne x13_0 x14_0 (show (52 : Nat) ≠ 3 by decide)) _) (bx_ne x13_0 x14_0 (show (52 : Nat) ≠ 3 by decide)) _) (bx_ne x13_0 x14_0 (show (52 : Nat) ≠ 3 by decide)) _), (bx_off (bx_off (bx_off x13_1 (bx_ne x13_1 x14_0 (show (4 : Nat) ≠ 3 by decide)) _) (bx_ne x13_1 x14_0 (show (4 : Nat) ≠ 3 by decide)) _) (bx_ne x13_1 x14_0 (show (4 : Nat) ≠ 3 by decide)) _), (bx_off (bx_off (bx_off x13_2 (bx_ne x13_2 x14_0 (show (13 : Nat) ≠ 3 by decide)) _) (bx_ne x13_2 x14_0 (show (13 : Nat) ≠ 3 by decide)) _) (bx_ne x13_2 x14_0 (show (13 : Nat) ≠ 3 by decide)) _), (((F.bel.setCell (p := ⟨g14_0, 0, none⟩) l14_0 _).setCell (p := ⟨g14_0, 1, none⟩) l14_0 _).setCell (p := ⟨g14_0, 2, none⟩) l14_0 _)⟩⟩
      clear F hall h0 hF hsz
      have z0 := x14_0.cell 0
      have z1 := x14_0.cell 1
      have z2 := x14_0.cell 2
      have fz0 := x14_0.free 0
      have fz1 := x14_0.free 1
      have fz2 := x14_0.free 2
      simp only [List.getElem?_toArray, List.getElem?_cons_zero, List.getElem?_cons_succ] at z0 z1 z2
      refine wpOp_step (by rfl) (fun K' hK => ?_)
      have HKk := Lib.hid hK
      clear hK
      go_simp
      exact HKk.out _ _ ⟨_, _, _, _, _, _, _, _, _, _, _, _, _, _, _, rfl, Or.inr HFin.out⟩
    | i + 16, hi, _, _, _ => exact absurd hi (by show ¬ (i + 16 < 16); omega)
  rintro l9 a wc ⟨rb0, rb1, rb2, rb3, rb4, rb5, rb6, rb7, rb8, rb9, rb10, rb11, rb12, rb13, rb14, rfl, hF⟩ hall
  obtain ⟨_, _, b3, p1, p2, p3, rfl, hb3, hp1, hp2, hp3, hbc⟩ := hF.resolve_left (fun z => z.1 (hall 15 (by decide)))
  clear hF hall
  have HB1c := Lib.hid (HB1b.out.below hbc)
  have HB2c := Lib.hid (HB2.out.below hbc)
  have HM1c := Lib.hid (HM1.out.below hbc)
  have HB3 := Lib.hid hb3
  have HP1 := Lib.hid hp1
  have HP2 := Lib.hid hp2
  have HP3 := Lib.hid hp3
  have HBc := Lib.hid (below_2 HBb.out hbc)
  clear hb3 hp1 hp2 hp3 hbc
  go_upto_region 4 with fail
  refine wp_region_inv rfl (fun l a w' => ∃ v0 v1 v2 v3 v4 v5 v6 v7 v8 : Value, a = { tmps := #[Value.bool false, Value.pointer (some { block := w.heap.size, off := 0 }), Value.pointer (some { block := b2, off := 0 }), Value.pointer (some { block := b3, off := 0 }), v8, undef, Value.agg #[Value.int IntKind.i64 1, Value.int IntKind.i64 1, Value.string { data := #[] }, Value.slice none 0 0], ra0, ra1, ra2, ra3, rb0, rb1, rb2, rb3, rb4, rb5, rb6, rb7, rb8, rb9, rb10, rb11, rb12, rb13, v0, v1, v2, v3, v4, v5, v6, v7, undef, undef, undef, undef, undef, undef, undef, undef, undef, undef, undef, undef, undef, undef, undef, undef, undef, undef, undef, undef, undef, undef, undef, undef, undef, undef, undef, undef, undef, undef, undef, undef, undef, undef, undef, undef, undef, undef, undef, undef, undef, undef, undef, undef, undef, undef, undef, undef], defers := [] } ∧ ((¬ On l 9 ∧ IS (MP wc.heap.size [⟨fun _ => .agg #[.int .i64 2, .int .i64 0, .string ⟨#[97]⟩, .slice none 0 0], []⟩, ⟨fun ρ => .agg #[.int .i64 23, .int .i64 0, .string ⟨#[]⟩, .slice (some ⟨(ρ 0), 0, none⟩) 1 1], [(0, fun _ => #[.int .i64 2, .int .i64 0, .string ⟨#[97]⟩, .slice none 0 0], 42)]⟩, ⟨fun ρ => .agg #[.int .i64 1, .string ⟨#[107]⟩, .int .i64 0, .int .i64 23, .int .i64 0, .string ⟨#[]⟩, .slice (some ⟨(ρ 0), 0, none⟩) 1 1, .int .i64 0, .int .i64 0, .string ⟨#[]⟩, .slice none 0 0, .slice none 0 0, .slice none 0 0], [(0, fun _ => #[.int .i64 2, .int .i64 0, .string ⟨#[97]⟩, .slice none 0 0], 42)]⟩, ⟨fun _ => .agg #[.int .i64 3, .int .i64 0, .string ⟨#[107]⟩, .slice none 0 0], []⟩, ⟨fun _ => .agg #[.int .i64 1, .int .i64 1, .string ⟨#[]⟩, .slice none 0 0], []⟩, ⟨fun _ => .agg #[.int .i64 3, .string ⟨#[]⟩, .int .i64 0, .int .i64 3, .int .i64 0, .string ⟨#[107]⟩, .slice none 0 0, .int .i64 1, .int .i64 1, .string ⟨#[]⟩, .slice none 0 0, .slice none 0 0, .slice none 0 0], []⟩, ⟨fun ρ => .slice (some ⟨(ρ 0), 0, none⟩) 2 2, [(0, fun ρ => (rowQ (ρ 1)), 44), (1, fun _ => #[.int .i64 2, .int .i64 0, .string ⟨#[97]⟩, .slice none 0 0], 42)]⟩, ⟨fun ρ => .agg #[.string ⟨#[113]⟩, .slice none 0 0, .slice (some ⟨(ρ 0), 0, none⟩) 2 2], [(0, fun ρ => (rowQ (ρ 1)), 44), (1, fun _ => #[.int .i64 2, .int .i64 0, .string ⟨#[97]⟩, .slice none 0 0], 42)]⟩, ⟨fun ρ => Value.pointer (some ⟨(ρ 0), 0, none⟩), [(0, fun _ => #[.string ⟨#[]⟩, .slice none 0 0, .slice none 0 0], 25)]⟩]) wc l w' [v0, v1, v2, v3, v4, v5, v6, v7, v8]) ∨ (On l 9 ∧ (∀ j, j < 9 → On l j) ∧ (∃ bA q0 q1 : Nat, v8 = Value.pointer (some ⟨bA, 0, none⟩) ∧ Bx w' bA #[.string ⟨#[113]⟩, .slice none 0 0, .slice (some ⟨q0, 0, none⟩) 2 2] 25 ∧ Bx w' q0 (rowQ q1) 44 ∧ Bx w' q1 #[.int .i64 2, .int .i64 0, .string ⟨#[97]⟩, .slice none 0 0] 42 ∧ Below wc.heap.size wc w')))) (by kernel_rfl) ?_ ?_ ?_
  · intro l hl
    exact ⟨_, _, _, _, _, _, _, _, _, rfl, Or.inl ⟨hl 9, IS.start _ _ hl _⟩⟩
  · rintro l a w' ⟨v0, v1, v2, v3, v4, v5, v6, v7, v8, rfl, hF⟩ i hi h0 hall
    have hF2 : i < 9 → ¬ On l 9 ∧ IS (MP wc.heap.size [⟨fun _ => .agg #[.int .i64 2, .int .i64 0, .string ⟨#[97]⟩, .slice none 0 0], []⟩, ⟨fun ρ => .agg #[.int .i64 23, .int .i64 0, .string ⟨#[]⟩, .slice (some ⟨(ρ 0), 0, none⟩) 1 1], [(0, fun _ => #[.int .i64 2, .int .i64 0, .string ⟨#[97]⟩, .slice none 0 0], 42)]⟩, ⟨fun ρ => .agg #[.int .i64 1, .string ⟨#[107]⟩, .int .i64 0, .int .i64 23, .int .i64 0, .string ⟨#[]⟩, .slice (some ⟨(ρ 0), 0, none⟩) 1 1, .int .i64 0, .int .i64 0, .string ⟨#[]⟩, .slice none 0 0, .slice none 0 0, .slice none 0 0], [(0, fun _ => #[.int .i64 2, .int .i64 0, .string ⟨#[97]⟩, .slice none 0 0], 42)]⟩, ⟨fun _ => .agg #[.int .i64 3, .int .i64 0, .string ⟨#[107]⟩, .slice none 0 0], []⟩, ⟨fun _ => .agg #[.int .i64 1, .int .i64 1, .string ⟨#[]⟩, .slice none 0 0], []⟩, ⟨fun _ => .agg #[.int .i64 3, .string ⟨#[]⟩, .int .i64 0, .int .i64 3, .int .i64 0, .string ⟨#[107]⟩, .slice none 0 0, .int .i64 1, .int .i64 1, .string ⟨#[]⟩, .slice none 0 0, .slice none 0 0, .slice none 0 0], []⟩, ⟨fun ρ => .slice (some ⟨(ρ 0), 0, none⟩) 2 2, [(0, fun ρ => (rowQ (ρ 1)), 44), (1, fun _ => #[.int .i64 2, .int .i64 0, .string ⟨#[97]⟩, .slice none 0 0], 42)]⟩, ⟨fun ρ => .agg #[.string ⟨#[113]⟩, .slice none 0 0, .slice (some ⟨(ρ 0), 0, none⟩) 2 2], [(0, fun ρ => (rowQ (ρ 1)), 44), (1, fun _ => #[.int .i64 2, .int .i64 0, .string ⟨#[97]⟩, .slice none 0 0], 42)]⟩, ⟨fun ρ => Value.pointer (some ⟨(ρ 0), 0, none⟩), [(0, fun _ => #[.string ⟨#[]⟩, .slice none 0 0, .slice none 0 0], 25)]⟩]) wc l w' [v0, v1, v2, v3, v4, v5, v6, v7, v8] := fun h => hF.resolve_right (fun z => off_of h0 (z.2.1 i h))
    match i, hi, h0, hall, hF2 with
    | 0, _, h0, hall, hF2 =>
      obtain ⟨hnm, F⟩ := hF2 (by decide)
      have HNm : Hid (¬ On (l.setIfInBounds 0 true) 9) := fun z => hnm (((on_set h0 9).1 z).resolve_left (by decide))
      clear hF hF2 hnm
      have hsz : wc.heap.size ≤ w'.heap.size := F.bel.size
      have HC := Lib.hid (ltext_any ⟨#[97]⟩ w')
      have HS := Lib.hid hsz
      have HF := Lib.hid (fun w'' hb x hx => F.step MP.mono h0 (show 0 < 9 by decide) (w' := w'') hb (x := x) hx)
      clear F hall h0 hsz
      refine wpOp_step (by rfl) (fun K' hK => ?_)
      have HKk := Lib.hid hK
      clear hK
      go_simp
      go_at_call 32
      refine HC.out.mono ?_; rintro e' w5 ⟨rfl, hb5⟩
      have HF5 := Lib.hid (HF.out w5 hb5 _ (show MC.holds wc.heap.size ⟨fun _ => .agg #[.int .i64 2, .int .i64 0, .string ⟨#[97]⟩, .slice none 0 0], []⟩ (.agg #[.int .i64 2, .int .i64 0, .string ⟨#[97]⟩, .slice none 0 0]) w5 from ⟨rho [], rfl, trivial⟩))
      exact HKk.out _ _ ⟨_, _, _, _, _, _, _, _, _, rfl, Or.inl ⟨HNm.out, HF5.out⟩⟩
    | 1, _, h0, hall, hF2 =>
      obtain ⟨hnm, F⟩ := hF2 (by decide)
      have HNm : Hid (¬ On (l.setIfInBounds 1 true) 9) := fun z => hnm (((on_set h0 9).1 z).resolve_left (by decide))
      clear hF hF2 hnm
      have hsz : wc.heap.size ≤ w'.heap.size := F.bel.size
      obtain rfl : v0 = .agg #[.int .i64 2, .int .i64 0, .string ⟨#[97]⟩, .slice none 0 0] := by
        obtain ⟨_, h, _⟩ : MC.holds wc.heap.size ⟨fun _ => .agg #[.int .i64 2, .int .i64 0, .string ⟨#[97]⟩, .slice none 0 0], []⟩ v0 w' := F.f 0 (hall 0 (by decide +kernel))
        exact h
      have HC := Lib.hid (lget_any 23 2 ⟨#[97]⟩ w')
      have HS := Lib.hid hsz
      have HF := Lib.hid (fun w'' hb x hx => F.step MP.mono h0 (show 1 < 9 by decide) (w' := w'') hb (x := x) hx)
      clear F hall h0 hsz
      refine wpOp_step (by rfl) (fun K' hK => ?_)
      have HKk := Lib.hid hK
      clear hK
      go_simp
      go_at_call 31
      refine HC.out.mono ?_; rintro e' w5 ⟨b5, rfl, hbb, hbx, hb5⟩
      have HF5 := Lib.hid (HF.out w5 hb5 _ (show MC.holds wc.heap.size ⟨fun ρ => .agg #[.int .i64 23, .int .i64 0, .string ⟨#[]⟩, .slice (some ⟨(ρ 0), 0, none⟩) 1 1], [(0, fun _ => #[.int .i64 2, .int .i64 0, .string ⟨#[97]⟩, .slice none 0 0], 42)]⟩ (.agg #[.int .i64 23, .int .i64 0, .string ⟨#[]⟩, .slice (some ⟨b5, 0, none⟩) 1 1]) w5 from ⟨rho [b5], rfl, ⟨Nat.le_trans HS.out hbb, hbx⟩, trivial⟩))
      exact HKk.out _ _ ⟨_, _, _, _, _, _, _, _, _, rfl, Or.inl ⟨HNm.out, HF5.out⟩⟩
    | 2, _, h0, hall, hF2 =>
      obtain ⟨hnm, F⟩ := hF2 (by decide)
      have HNm : Hid (¬ On (l.setIfInBounds 2 true) 9) := fun z => hnm (((on_set h0 9).1 z).resolve_left (by decide))
      clear hF hF2 hnm
      have hsz : wc.heap.size ≤ w'.heap.size := F.bel.size
      obtain ⟨g1_0, rfl, l1_0, x1_0⟩ : ∃ g1_0 : Nat, v1 = .agg #[.int .i64 23, .int .i64 0, .string ⟨#[]⟩, .slice (some ⟨g1_0, 0, none⟩) 1 1] ∧ wc.heap.size ≤ g1_0 ∧ Bx w' g1_0 #[.int .i64 2, .int .i64 0, .string ⟨#[97]⟩, .slice none 0 0] 42 := by
        obtain ⟨ρ, h, hm⟩ : MC.holds wc.heap.size ⟨fun ρ => .agg #[.int .i64 23, .int .i64 0, .string ⟨#[]⟩, .slice (some ⟨(ρ 0), 0, none⟩) 1 1], [(0, fun _ => #[.int .i64 2, .int .i64 0, .string ⟨#[97]⟩, .slice none 0 0], 42)]⟩ v1 w' := F.f 1 (hall 1 (by decide +kernel))
        exact ⟨ρ 0, h, hm.1.1, hm.1.2⟩
      have HF := Lib.hid (F.step MP.mono h0 (show 2 < 9 by decide) (Below.refl _ _) (x := .agg #[.int .i64 1, .string ⟨#[107]⟩, .int .i64 0, .int .i64 23, .int .i64 0, .string ⟨#[]⟩, .slice (some ⟨g1_0, 0, none⟩) 1 1, .int .i64 0, .int .i64 0, .string ⟨#[]⟩, .slice none 0 0, .slice none 0 0, .slice none 0 0]) (show MC.holds wc.heap.size ⟨fun ρ => .agg #[.int .i64 1, .string ⟨#[107]⟩, .int .i64 0, .int .i64 23, .int .i64 0, .string ⟨#[]⟩, .slice (some ⟨(ρ 0), 0, none⟩) 1 1, .int .i64 0, .int .i64 0, .string ⟨#[]⟩, .slice none 0 0, .slice none 0 0, .slice none 0 0], [(0, fun _ => #[.int .i64 2, .int .i64 0, .string ⟨#[97]⟩, .slice none 0 0], 42)]⟩ (.agg #[.int .i64 1, .string ⟨#[107]⟩, .int .i64 0, .int .i64 23, .int .i64 0, .string ⟨#[]⟩, .slice (some ⟨g1_0, 0, none⟩) 1 1, .int .i64 0, .int .i64 0, .string ⟨#[]⟩, .slice none 0 0, .slice none 0 0, .slice none 0 0]) w' from ⟨rho [g1_0], rfl, ⟨l1_0, x1_0⟩, trivial⟩))
      clear F hall h0 hsz
      refine wpOp_step (by rfl) (fun K' hK => ?_)
      have HKk := Lib.hid hK
      clear hK
      go_simp
      exact HKk.out _ _ ⟨_, _, _, _, _, _, _, _, _, rfl, Or.inl ⟨HNm.out, HF.out⟩⟩
    | 3, _, h0, hall, hF2 =>
      obtain ⟨hnm, F⟩ := hF2 (by decide)
      have HNm : Hid (¬ On (l.setIfInBounds 3 true) 9) := fun z => hnm (((on_set h0 9).1 z).resolve_left (by decide))
      clear hF hF2 hnm
      have hsz : wc.heap.size ≤ w'.heap.size := F.bel.size
      have HC := Lib.hid (lname_any ⟨#[107]⟩ w')
      have HS := Lib.hid hsz
      have HF := Lib.hid (fun w'' hb x hx => F.step MP.mono h0 (show 3 < 9 by decide) (w' := w'') hb (x := x) hx)
      clear F hall h0 hsz
      refine wpOp_step (by rfl) (fun K' hK => ?_)
      have HKk := Lib.hid hK
      clear hK
      go_simp
      go_at_call 30
      refine HC.out.mono ?_; rintro e' w5 ⟨rfl, hb5⟩
      have HF5 := Lib.hid (HF.out w5 hb5 _ (show MC.holds wc.heap.size ⟨fun _ => .agg #[.int .i64 3, .int .i64 0, .string ⟨#[107]⟩, .slice none 0 0], []⟩ (.agg #[.int .i64 3, .int .i64 0, .string ⟨#[107]⟩, .slice none 0 0]) w5 from ⟨rho [], rfl, trivial⟩))
      exact HKk.out _ _ ⟨_, _, _, _, _, _, _, _, _, rfl, Or.inl ⟨HNm.out, HF5.out⟩⟩
    | 4, _, h0, hall, hF2 =>
      obtain ⟨hnm, F⟩ := hF2 (by decide)
      have HNm : Hid (¬ On (l.setIfInBounds 4 true) 9) := fun z => hnm (((on_set h0 9).1 z).resolve_left (by decide))
      clear hF hF2 hnm
      have hsz : wc.heap.size ≤ w'.heap.size := F.bel.size
      have y0 := (HB1c.out.below F.bel).cell 0
      have y1 := (HB1c.out.below F.bel).cell 1
      have y2 := (HB1c.out.below F.bel).cell 2
      have y3 := (HB1c.out.below F.bel).cell 3
      simp only [List.getElem?_toArray, List.getElem?_cons_zero, List.getElem?_cons_succ] at y0 y1 y2 y3
      have HF := Lib.hid (F.step MP.mono h0 (show 4 < 9 by decide) (Below.refl _ _) (x := .agg #[.int .i64 1, .int .i64 1, .string ⟨#[]⟩, .slice none 0 0]) (show MC.holds wc.heap.size ⟨fun _ => .agg #[.int .i64 1, .int .i64 1, .string ⟨#[]⟩, .slice none 0 0], []⟩ (.agg #[.int .i64 1, .int .i64 1, .string ⟨#[]⟩, .slice none 0 0]) w' from ⟨rho [], rfl, trivial⟩))
      clear F hall h0 hsz
      refine wpOp_step (by rfl) (fun K' hK => ?_)
      have HKk := Lib.hid hK
      clear hK
      go_simp
      exact HKk.out _ _ ⟨_, _, _, _, _, _, _, _, _, rfl, Or.inl ⟨HNm.out, HF.out⟩⟩
    | 5, _, h0, hall, hF2 =>
      obtain ⟨hnm, F⟩ := hF2 (by decide)
      have HNm : Hid (¬ On (l.setIfInBounds 5 true) 9) := fun z => hnm (((on_set h0 9).1 z).resolve_left (by decide))
      clear hF hF2 hnm
      have hsz : wc.heap.size ≤ w'.heap.size := F.bel.size
      obtain rfl : v3 = .agg #[.int .i64 3, .int .i64 0, .string ⟨#[107]⟩, .slice none 0 0] := by
        obtain ⟨_, h, _⟩ : MC.holds wc.heap.size ⟨fun _ => .agg #[.int .i64 3, .int .i64 0, .string ⟨#[107]⟩, .slice none 0 0], []⟩ v3 w' := F.f 3 (hall 3 (by decide +kernel))
        exact h
      obtain rfl : v4 = .agg #[.int .i64 1, .int .i64 1, .string ⟨#[]⟩, .slice none 0 0] := by
        obtain ⟨_, h, _⟩ : MC.holds wc.heap.size ⟨fun _ => .agg #[.int .i64 1, .int .i64 1, .string ⟨#[]⟩, .slice none 0 0], []⟩ v4 w' := F.f 4 (hall 4 (by decide +kernel))
        exact h
      have HF := Lib.hid (F.step MP.mono h0 (show 5 < 9 by decide) (Below.refl _ _) (x := .agg #[.int .i64 3, .string ⟨#[]⟩, .int .i64 0, .int .i64 3, .int .i64 0, .string ⟨#[107]⟩, .slice none 0 0, .int .i64 1, .int .i64 1, .string ⟨#[]⟩, .slice none 0 0, .slice none 0 0, .slice none 0 0]) (show MC.holds wc.heap.size ⟨fun _ => .agg #[.int .i64 3, .string ⟨#[]⟩, .int .i64 0, .int .i64 3, .int .i64 0, .string ⟨#[107]⟩, .slice none 0 0, .int .i64 1, .int .i64 1, .string ⟨#[]⟩, .slice none 0 0, .slice none 0 0, .slice none 0 0], []⟩ (.agg #[.int .i64 3, .string ⟨#[]⟩, .int .i64 0, .int .i64 3, .int .i64 0, .string ⟨#[107]⟩, .slice none 0 0, .int .i64 1, .int .i64 1, .string ⟨#[]⟩, .slice none 0 0, .slice none 0 0, .slice none 0 0]) w' from ⟨rho [], rfl, trivial⟩))
      clear F hall h0 hsz
      refine wpOp_step (by rfl) (fun K' hK => ?_)
      have HKk := Lib.hid hK
      clear hK
      go_simp
      exact HKk.out _ _ ⟨_, _, _, _, _, _, _, _, _, rfl, Or.inl ⟨HNm.out, HF.out⟩⟩
    | 6, _, h0, hall, hF2 =>
      obtain ⟨hnm, F⟩ := hF2 (by decide)
      have HNm : Hid (¬ On (l.setIfInBounds 6 true) 9) := fun z => hnm (((on_set h0 9).1 z).resolve_left (by decide))
      clear hF hF2 hnm
      have hsz : wc.heap.size ≤ w'.heap.size := F.bel.size
      obtain ⟨g2_0, rfl, l2_0, x2_0⟩ : ∃ g2_0 : Nat, v2 = .agg #[.int .i64 1, .string ⟨#[107]⟩, .int .i64 0, .int .i64 23, .int .i64 0, .string ⟨#[]⟩, .slice (some ⟨g2_0, 0, none⟩) 1 1, .int .i64 0, .int .i64 0, .string ⟨#[]⟩, .slice none 0 0, .slice none 0 0, .slice none 0 0] ∧ wc.heap.size ≤ g2_0 ∧ Bx w' g2_0 #[.int .i64 2, .int .i64 0, .string ⟨#[97]⟩, .slice none 0 0] 42 := by
        obtain ⟨ρ, h, hm⟩ : MC.holds wc.heap.size ⟨fun ρ => .agg #[.int .i64 1, .string ⟨#[107]⟩, .int .i64 0, .int .i64 23, .int .i64 0, .string ⟨#[]⟩, .slice (some ⟨(ρ 0), 0, none⟩) 1 1, .int .i64 0, .int .i64 0, .string ⟨#[]⟩, .slice none 0 0, .slice none 0 0, .slice none 0 0], [(0, fun _ => #[.int .i64 2, .int .i64 0, .string ⟨#[97]⟩, .slice none 0 0], 42)]⟩ v2 w' := F.f 2 (hall 2 (by decide +kernel))
        exact ⟨ρ 0, h, hm.1.1, hm.1.2⟩
      obtain rfl : v5 = .agg #[.int .i64 3, .string ⟨#[]⟩, .int .i64 0, .int .i64 3, .int .i64 0, .string ⟨#[107]⟩, .slice none 0 0, .int .i64 1, .int .i64 1, .string ⟨#[]⟩, .slice none 0 0, .slice none 0 0, .slice none 0 0] := by
        obtain ⟨_, h, _⟩ : MC.holds wc.heap.size ⟨fun _ => .agg #[.int .i64 3, .string ⟨#[]⟩, .int .i64 0, .int .i64 3, .int .i64 0, .string ⟨#[107]⟩, .slice none 0 0, .int .i64 1, .int .i64 1, .string ⟨#[]⟩, .slice none 0 0, .slice none 0 0, .slice none 0 0], []⟩ v5 w' := F.f 5 (hall 5 (by decide +kernel))
        exact h
      have HF := Lib.hid (F.step MP.mono h0 (show 6 < 9 by decide) (w' := w'.alloc (.cells (rowQ g2_0) 44)) (below_box _ _) (x := .slice (some ⟨w'.heap.size, 0, none⟩) 2 2) (show MC.holds wc.heap.size ⟨fun ρ => .slice (some ⟨(ρ 0), 0, none⟩) 2 2, [(0, fun ρ => (rowQ (ρ 1)), 44), (1, fun _ => #[.int .i64 2, .int .i64 0, .string ⟨#[97]⟩, .slice none 0 0], 42)]⟩ (.slice (some ⟨w'.heap.size, 0, none⟩) 2 2) (w'.alloc (.cells (rowQ g2_0) 44)) from ⟨rho [w'.heap.size, g2_0], rfl, ⟨hsz, Bx.new _ _ _⟩, ⟨l2_0, x2_0.below (below_box _ _)⟩, trivial⟩))
      clear F hall h0 hsz
      refine wpOp_step (by rfl) (fun K' hK => ?_)
      have HKk := Lib.hid hK
      clear hK
      go_simp
      exact HKk.out _ _ ⟨_, _, _, _, _, _, _, _, _, rfl, Or.inl ⟨HNm.out, HF.out⟩⟩
    | 7, _, h0, hall, hF2 =>
      obtain ⟨hnm, F⟩ := hF2 (by decide)
      have HNm : Hid (¬ On (l.setIfInBounds 7 true) 9) := fun z => hnm (((on_set h0 9).1 z).resolve_left (by decide))
      clear hF hF2 hnm
      have hsz : wc.heap.size ≤ w'.heap.size := F.bel.size
      obtain ⟨g6_0, g6_1, rfl, l6_0, x6_0, l6_1, x6_1⟩ : ∃ g6_0 g6_1 : Nat, v6 = .slice (some ⟨g6_0, 0, none⟩) 2 2 ∧ wc.heap.size ≤ g6_0 ∧ Bx w' g6_0 (rowQ g6_1) 44 ∧ wc.heap.size ≤ g6_1 ∧ Bx w' g6_1 #[.int .i64 2, .int .i64 0, .string ⟨#[97]⟩, .slice none 0 0] 42 := by
        obtain ⟨ρ, h, hm⟩ : MC.holds wc.heap.size ⟨fun ρ => .slice (some ⟨(ρ 0), 0, none⟩) 2 2, [(0, fun ρ => (rowQ (ρ 1)), 44), (1, fun _ => #[.int .i64 2, .int .i64 0, .string ⟨#[97]⟩, .slice none 0 0], 42)]⟩ v6 w' := F.f 6 (hall 6 (by decide +kernel))
        exact ⟨ρ 0, ρ 1, h, hm.1.1, hm.1.2, hm.2.1.1, hm.2.1.2⟩
      have HF := Lib.hid (F.step MP.mono h0 (show 7 < 9 by decide) (Below.refl _ _) (x := .agg #[.string ⟨#[113]⟩, .slice none 0 0, .slice (some ⟨g6_0, 0, none⟩) 2 2]) (show MC.holds wc.heap.size ⟨fun ρ => .agg #[.string ⟨#[113]⟩, .slice none 0 0, .slice (some ⟨(ρ 0), 0, none⟩) 2 2], [(0, fun ρ => (rowQ (ρ 1)), 44), (1, fun _ => #[.int .i64 2, .int .i64 0, .string ⟨#[97]⟩, .slice none 0 0], 42)]⟩ (.agg #[.string ⟨#[113]⟩, .slice none 0 0, .slice (some ⟨g6_0, 0, none⟩) 2 2]) w' from ⟨rho [g6_0, g6_1], rfl, ⟨l6_0, x6_0⟩, ⟨l6_1, x6_1⟩, trivial⟩))
      clear F hall h0 hsz
      refine wpOp_step (by rfl) (fun K' hK => ?_)
      have HKk := Lib.hid hK
      clear hK
      go_simp
      exact HKk.out _ _ ⟨_, _, _, _, _, _, _, _, _, rfl, Or.inl ⟨HNm.out, HF.out⟩⟩
    | 8, _, h0, hall, hF2 =>
      obtain ⟨hnm, F⟩ := hF2 (by decide)
      have HNm : Hid (¬ On (l.setIfInBounds 8 true) 9) := fun z => hnm (((on_set h0 9).1 z).resolve_left (by decide))
      clear hF hF2 hnm
      have hsz : wc.heap.size ≤ w'.heap.size := F.bel.size
      have HF := Lib.hid (F.step MP.mono h0 (show 8 < 9 by decide) (w' := w'.alloc (.cells #[.string ⟨#[]⟩, .slice none 0 0, .slice none 0 0] 25)) (below_box _ _) (x := Value.pointer (some ⟨w'.heap.size, 0, none⟩)) (show MC.holds wc.heap.size ⟨fun ρ => Value.pointer (some ⟨(ρ 0), 0, none⟩), [(0, fun _ => #[.string ⟨#[]⟩, .slice none 0 0, .slice none 0 0], 25)]⟩ (Value.pointer (some ⟨w'.heap.size, 0, none⟩)) (w'.alloc (.cells #[.string ⟨#[]⟩, .slice none 0 0, .slice none 0 0] 25)) from ⟨rho [w'.heap.size], rfl, ⟨hsz, Bx.new _ _ _⟩, trivial⟩))
      clear F hall h0 hsz
      refine wpOp_step (by rfl) (fun K' hK => ?_)
      have HKk := Lib.hid hK
      clear hK
      go_simp
      exact HKk.out _ _ ⟨_, _, _, _, _, _, _, _, _, rfl, Or.inl ⟨HNm.out, HF.out⟩⟩
    | 9, _, h0, hall, _ =>
      obtain ⟨_, F⟩ := hF.resolve_right (fun z => off_of h0 z.1)
      have hsz : wc.heap.size ≤ w'.heap.size := F.bel.size
      obtain ⟨g7_0, g7_1, rfl, l7_0, x7_0, l7_1, x7_1⟩ : ∃ g7_0 g7_1 : Nat, v7 = .agg #[.string ⟨#[113]⟩, .slice none 0 0, .slice (some ⟨g7_0, 0, none⟩) 2 2] ∧ wc.heap.size ≤ g7_0 ∧ Bx w' g7_0 (rowQ g7_1) 44 ∧ wc.heap.size ≤ g7_1 ∧ Bx w' g7_1 #[.int .i64 2, .int .i64 0, .string ⟨#[97]⟩, .slice none 0 0] 42 := by
        obtain ⟨ρ, h, hm⟩ : MC.holds wc.heap.size ⟨fun ρ => .agg #[.string ⟨#[113]⟩, .slice none 0 0, .slice (some ⟨(ρ 0), 0, none⟩) 2 2], [(0, fun ρ => (rowQ (ρ 1)), 44), (1, fun _ => #[.int .i64 2, .int .i64 0, .string ⟨#[97]⟩, .slice none 0 0], 42)]⟩ v7 w' := F.f 7 (hall 7 (by decide +kernel))
        exact ⟨ρ 0, ρ 1, h, hm.1.1, hm.1.2, hm.2.1.1, hm.2.1.2⟩
      obtain ⟨g8_0, rfl, l8_0, x8_0⟩ : ∃ g8_0 : Nat, v8 = Value.pointer (some ⟨g8_0, 0, none⟩) ∧ wc.heap.size ≤ g8_0 ∧ Bx w' g8_0 #[.string ⟨#[]⟩, .slice none 0 0, .slice none 0 0] 25 := by
        obtain ⟨ρ, h, hm⟩ : MC.holds wc.heap.size ⟨fun ρ => Value.pointer (some ⟨(ρ 0), 0, none⟩), [(0, fun _ => #[.string ⟨#[]⟩, .slice none 0 0, .slice none 0 0], 25)]⟩ v8 w' := F.f 8 (hall 8 (by decide +kernel))
        exact ⟨ρ 0, h, hm.1.1, hm.1.2⟩
      have HFin : Hid (On (l.setIfInBounds 9 true) 9 ∧ (∀ j, j < 9 → On (l.setIfInBounds 9 true) j) ∧ (∃ bA q0 q1 : Nat, Value.pointer (some ⟨g8_0, 0, none⟩) = Value.pointer (some ⟨bA, 0, none⟩) ∧ Bx (((w'.setCell ⟨g8_0, 0, none⟩ (.string ⟨#[113]⟩)).setCell ⟨g8_0, 1, none⟩ (.slice none 0 0)).setCell ⟨g8_0, 2, none⟩ (.slice (some ⟨g7_0, 0, none⟩) 2 2)) bA #[.string ⟨#[113]⟩, .slice none 0 0, .slice (some ⟨q0, 0, none⟩) 2 2] 25 ∧ Bx (((w'.setCell ⟨g8_0, 0, none⟩ (.string ⟨#[113]⟩)).setCell ⟨g8_0, 1, none⟩ (.slice none 0 0)).setCell ⟨g8_0, 2, none⟩ (.slice (some ⟨g7_0, 0, none⟩) 2 2)) q0 (rowQ q1) 44 ∧ Bx (((w'.setCell ⟨g8_0, 0, none⟩ (.string ⟨#[113]⟩)).setCell ⟨g8_0, 1, none⟩ (.slice none 0 0)).setCell ⟨g8_0, 2, none⟩ (.slice (some ⟨g7_0, 0, none⟩) 2 2)) q1 #[.int .i64 2, .int .i64 0, .string ⟨#[97]⟩, .slice none 0 0] 42 ∧ Below wc.heap.size wc (((w'.setCell ⟨g8_0, 0, none⟩ (.string ⟨#[113]⟩)).setCell ⟨g8_0, 1, none⟩ (.slice none 0 0)).setCell ⟨g8_0, 2, none⟩ (.slice (some ⟨g7_0, 0, none⟩) 2 2)))) :=
        ⟨(on_set h0 9).2 (Or.inl rfl), (fun j hj => by
          refine (on_set h0 j).2 (Or.inr (hall j ?_))
          revert hj
          revert j
          decide +kernel), ⟨g8_0, g7_0, g7_1, rfl, (((x8_0.set 0).set 1).set 2), (bx_off (bx_off (bx_off x7_0 (bx_ne x7_0 x8_0 (show (26 : Nat) ≠ 3 by decide)) _) (bx_ne x7_0 x8_0 (show (26 : Nat) ≠ 3 by decide)) _) (bx_ne x7_0 x8_0 (show (26 : Nat) ≠ 3 by decide)) _), (bx_off (bx_off (bx_off x7_1 (bx_ne x7_1 x8_0 (show (4 : Nat) ≠ 3 by decide)) _) (bx_ne x7_1 x8_0 (show (4 : Nat) ≠ 3 by decide)) _) (bx_ne x7_1 x8_0 (show (4 : Nat) ≠ 3 by decide)) _), (((F.bel.setCell (p := ⟨g8_0, 0, none⟩) l8_0 _).setCell (p := ⟨g8_0, 1, none⟩) l8_0 _).setCell (p := ⟨g8_0, 2, none⟩) l8_0 _)⟩⟩
      clear F hall h0 hF hsz
      have z0 := x8_0.cell 0
      have z1 := x8_0.cell 1
      have z2 := x8_0.cell 2
      have fz0 := x8_0.free 0
      have fz1 := x8_0.free 1
      have fz2 := x8_0.free 2
      simp only [List.getElem?_toArray, List.getElem?_cons_zero, List.getElem?_cons_succ] at z0 z1 z2
      refine wpOp_step (by rfl) (fun K' hK => ?_)
      have HKk := Lib.hid hK
      clear hK
      go_simp
      exact HKk.out _ _ ⟨_, _, _, _, _, _, _, _, _, rfl, Or.inr HFin.out⟩
    | i + 10, hi, _, _, _ => exact absurd hi (by show ¬ (i + 10 < 10); omega)
  rintro l9 a wd ⟨rc0, rc1, rc2, rc3, rc4, rc5, rc6, rc7, rc8, rfl, hF⟩ hall
  obtain ⟨_, _, b4, q1, q2, rfl, hb4, hq1, hq2, hbd⟩ := hF.resolve_left (fun z => z.1 (hall 9 (by decide)))
  clear hF hall
  have HB3d := Lib.hid (HB3.out.below hbd)
  have HP1d := Lib.hid (HP1.out.below hbd)
  have HP2d := Lib.hid (HP2.out.below hbd)
  have HP3d := Lib.hid (HP3.out.below hbd)
  have HM1d := Lib.hid (HM1c.out.below hbd)
  have HB4 := Lib.hid hb4
  have HQ1 := Lib.hid hq1
  have HQ2 := Lib.hid hq2
  have HBd := Lib.hid (below_2 HA.out (below_2 HBc.out hbd))
  clear hb4 hq1 hq2 hbd
  have HPc := Lib.hid (Bx.new wd #[.string ⟨#[97]⟩, .int .i64 2, .string ⟨#[98]⟩, .int .i64 2] 49)
  have HBp := Lib.hid (below_box wd (.cells #[.string ⟨#[97]⟩, .int .i64 2, .string ⟨#[98]⟩, .int .i64 2] 49))
  have HWd : Hid (wd.heap.size = wd.heap.size) := rfl
  go_wp2_with fail
  refine (lname_any ⟨#[97]⟩ _).mono ?_; rintro e' w1 ⟨rfl, hb1⟩
  have HN1 := Lib.hid (below_2 HBp.out hb1)
  have HPc1 := Lib.hid (HPc.out.below hb1)
  clear hb1
  go_wp2_with fail
  refine (lget_any 22 3 ⟨#[97]⟩ _).mono ?_; rintro e' w2 ⟨c2, rfl, hc2, hx2, hb2⟩
  have HN2 := Lib.hid (below_2 HN1.out hb2)
  have HPc2 := Lib.hid (HPc1.out.below hb2)
  have HX2 := Lib.hid hx2
  clear hb2 hc2 hx2
  go_wp2_with fail
  refine (lname_any ⟨#[98]⟩ _).mono ?_; rintro e' w3 ⟨rfl, hb3⟩
  have HN3 := Lib.hid (below_2 HN2.out hb3)
  have HPc3 := Lib.hid (HPc2.out.below hb3)
  have HX3 := Lib.hid (HX2.out.below hb3)
  clear hb3
  go_wp2_with fail
  refine (lname_any ⟨#[120]⟩ _).mono ?_; rintro e' w4 ⟨rfl, hb4⟩
  have HN4 := Lib.hid (below_2 HN3.out hb4)
  have HPc4 := Lib.hid (HPc3.out.below hb4)
  have HX4 := Lib.hid (HX3.out.below hb4)
  clear hb4
  have hr1 := below_box w4 (.cells (rowC c2) 44)
  have hr2 := below_box (w4.alloc (.cells (rowC c2) 44)) (.cells #[.string ⟨#[99, 111, 112, 121]⟩, .slice (some ⟨wd.heap.size, 0, none⟩) 2 2, .slice (some ⟨w4.heap.size, 0, none⟩) 2 2] 25)
  have hx1 := (Bx.new w4 (rowC c2) 44).below hr2
  have hx2 := Bx.new (w4.alloc (.cells (rowC c2) 44)) #[.string ⟨#[99, 111, 112, 121]⟩, .slice (some ⟨wd.heap.size, 0, none⟩) 2 2, .slice (some ⟨w4.heap.size, 0, none⟩) 2 2] 25
  have hs1 : (w4.alloc (.cells (rowC c2) 44)).heap.size = w4.heap.size + 1 := by simp
  rw [hs1] at hx2
  have hr := below_2 hr1 hr2
  have HE0 : Hid (EV ((w4.alloc (.cells (rowC c2) 44)).alloc (.cells #[.string ⟨#[99, 111, 112, 121]⟩, .slice (some ⟨wd.heap.size, 0, none⟩) 2 2, .slice (some ⟨w4.heap.size, 0, none⟩) 2 2] 25)) m1 b3 p1 p2 p3 b4 q1 q2 (w4.heap.size + 1) wd.heap.size w4.heap.size c2) :=
    ⟨(HM1d.out.below HN4.out).below hr, (HB3d.out.below HN4.out).below hr, (HP1d.out.below HN4.out).below hr, (HP2d.out.below HN4.out).below hr, (HP3d.out.below HN4.out).below hr, (HB4.out.below HN4.out).below hr, (HQ1.out.below HN4.out).below hr, (HQ2.out.below HN4.out).below hr, hx2, HPc4.out.below hr, hx1, HX4.out.below hr⟩
  have HD0 := Lib.hid (below_2 HBd.out (below_2 HN4.out hr))
  obtain ⟨we, hwe⟩ : ∃ we, (w4.alloc (.cells (rowC c2) 44)).alloc (.cells #[.string ⟨#[99, 111, 112, 121]⟩, .slice (some ⟨wd.heap.size, 0, none⟩) 2 2, .slice (some ⟨w4.heap.size, 0, none⟩) 2 2] 25) = we := ⟨_, rfl⟩
  rw [hwe] at HE0 HD0
  have HWe := Lib.hid hwe
  obtain ⟨b5, hb5⟩ : ∃ b, w4.heap.size + 1 = b := ⟨_, rfl⟩
  have HB5 := Lib.hid hb5
  clear hr1 hr2 hx1 hx2 hs1 hr hwe hb5
  go_upto_region 6 with fail
  refine cast (congrArg (fun W => Code.wp _ _ _ _ W) HWe.out.symm) ?_
  have y0 := HE0.out.fb3.cell 0
  have y1 := HE0.out.fb3.cell 1
  have y2 := HE0.out.fb3.cell 2
  simp only [List.getElem?_toArray, List.getElem?_cons_zero, List.getElem?_cons_succ] at y0 y1 y2
  have HC0 := Lib.hid (p_T HE0.out (HT.out.below HD0.out))
  go_wp2_with fail
  refine HC0.out.mono ?_; rintro e' z0 ⟨qs, cs, rfl, _, hs, hb⟩
  have HE1 := Lib.hid (HE0.out.below hb)
  have HD1 := Lib.hid (below_2 HD0.out hb)
  have hnb := below_box z0 (.cells #[.string ⟨#[120]⟩, .string ⟨#[121]⟩] 9)
  have hn := Bx.new z0 #[.string ⟨#[120]⟩, .string ⟨#[121]⟩] 9
  have hsn : StrsAt (z0.alloc (.cells #[.string ⟨#[120]⟩, .string ⟨#[121]⟩] 9)) (some ⟨z0.heap.size, 0, none⟩) [⟨#[120]⟩, ⟨#[121]⟩] := Or.inr ⟨_, 0, rfl, fun j hj => by
      match j, hj with
      | 0, _ => exact hn.cell 0
      | 1, _ => exact hn.cell 1
      | j + 2, h => exact absurd h (by show ¬ (j + 2 < 2); omega)⟩
  have HSS := Lib.hid (lstrings_any [⟨#[120]⟩, ⟨#[121]⟩] [⟨#[120]⟩, ⟨#[121]⟩] qs (some ⟨z0.heap.size, 0, none⟩) cs 2 (by decide) _ (hs.below hnb) hsn)
  rw [decide_eq_true rfl] at HSS
  have HE2 := Lib.hid (HE1.out.below hnb)
  have HD2 := Lib.hid (below_2 HD1.out hnb)
  clear hb y0 y1 y2 hnb hn hsn hs
  go_wp2_with fail
  refine HSS.out.mono ?_; rintro e' z2 ⟨rfl, hb⟩
  have HE3 := Lib.hid (HE2.out.below hb)
  have HD3 := Lib.hid (below_2 HD2.out hb)
  clear hb
  have y0 := HE3.out.fb3.cell 0
  have y1 := HE3.out.fb3.cell 1
  have y2 := HE3.out.fb3.cell 2
  simp only [List.getElem?_toArray, List.getElem?_cons_zero, List.getElem?_cons_succ] at y0 y1 y2
  have HC3 := Lib.hid (p_C HE3.out (HT.out.below HD3.out))
  go_wp2_with fail
  refine HC3.out.mono ?_; rintro e' z3 ⟨rfl, hb⟩
  have HE4 := Lib.hid (HE3.out.below hb)
  have HD4 := Lib.hid (below_2 HD3.out hb)
  clear hb y0 y1 y2
  have y0 := HE4.out.fb3.cell 0
  have y1 := HE4.out.fb3.cell 1
  have y2 := HE4.out.fb3.cell 2
  simp only [List.getElem?_toArray, List.getElem?_cons_zero, List.getElem?_cons_succ] at y0 y1 y2
  have HC4 := Lib.hid (p_K HE4.out (HT.out.below HD4.out))
  go_wp2_with fail
  refine HC4.out.mono ?_; rintro e' z4 ⟨rfl, hb⟩
  have HE5 := Lib.hid (HE4.out.below hb)
  have HD5 := Lib.hid (below_2 HD4.out hb)
  clear hb y0 y1 y2
  have y0 := HE5.out.fb4.cell 0
  have y1 := HE5.out.fb4.cell 1
  have y2 := HE5.out.fb4.cell 2
  simp only [List.getElem?_toArray, List.getElem?_cons_zero, List.getElem?_cons_succ] at y0 y1 y2
  have HC5 := Lib.hid (q_K HE5.out (HT.out.below HD5.out))
  go_wp2_with fail
  refine HC5.out.mono ?_; rintro e' z5 ⟨rfl, hb⟩
  have HE6 := Lib.hid (HE5.out.below hb)
  have HD6 := Lib.hid (below_2 HD5.out hb)
  clear hb y0 y1 y2
  have y0 := HE6.out.fb4.cell 0
  have y1 := HE6.out.fb4.cell 1
  have y2 := HE6.out.fb4.cell 2
  simp only [List.getElem?_toArray, List.getElem?_cons_zero, List.getElem?_cons_succ] at y0 y1 y2
  have HC6 := Lib.hid (q_I HE6.out (HT.out.below HD6.out))
  go_wp2_with fail
  refine HC6.out.mono ?_; rintro e' z6 ⟨rfl, hb⟩
  have HE7 := Lib.hid (HE6.out.below hb)
  have HD7 := Lib.hid (below_2 HD6.out hb)
  clear hb y0 y1 y2
  have y0 := HE7.out.fb5.cell 0
  have y1 := HE7.out.fb5.cell 1
  have y2 := HE7.out.fb5.cell 2
  simp only [List.getElem?_toArray, List.getElem?_cons_zero, List.getElem?_cons_succ] at y0 y1 y2
  have HC7 := Lib.hid (c_T HE7.out (HT.out.below HD7.out))
  go_wp2_with fail
  refine HC7.out.mono ?_; rintro e' z7 ⟨qs, cs, rfl, _, hs, hb⟩
  have HE8 := Lib.hid (HE7.out.below hb)
  have HD8 := Lib.hid (below_2 HD7.out hb)
  have hnb := below_box z7 (.cells #[.string ⟨#[120]⟩] 9)
  have hn := Bx.new z7 #[.string ⟨#[120]⟩] 9
  have hsn : StrsAt (z7.alloc (.cells #[.string ⟨#[120]⟩] 9)) (some ⟨z7.heap.size, 0, none⟩) [⟨#[120]⟩] := Or.inr ⟨_, 0, rfl, fun j hj => by
      match j, hj with
      | 0, _ => exact hn.cell 0
      | j + 1, h => exact absurd h (by show ¬ (j + 1 < 1); omega)⟩
  have HSS := Lib.hid (lstrings_any [⟨#[120]⟩] [⟨#[120]⟩] qs (some ⟨z7.heap.size, 0, none⟩) cs 1 (by decide) _ (hs.below hnb) hsn)
  rw [decide_eq_true rfl] at HSS
  have HE9 := Lib.hid (HE8.out.below hnb)
  have HD9 := Lib.hid (below_2 HD8.out hnb)
  clear hb y0 y1 y2 hnb hn hsn hs
  go_wp2_with fail
  refine HSS.out.mono ?_; rintro e' z9 ⟨rfl, hb⟩
  have HE10 := Lib.hid (HE9.out.below hb)
  have HD10 := Lib.hid (below_2 HD9.out hb)
  clear hb
  have y0 := HE10.out.fb5.cell 0
  have y1 := HE10.out.fb5.cell 1
  have y2 := HE10.out.fb5.cell 2
  simp only [List.getElem?_toArray, List.getElem?_cons_zero, List.getElem?_cons_succ] at y0 y1 y2
  have HC10 := Lib.hid (c_I HE10.out (HT.out.below HD10.out))
  go_wp2_with fail
  refine HC10.out.mono ?_; rintro e' z10 ⟨rfl, hb⟩
  have HE11 := Lib.hid (HE10.out.below hb)
  have HD11 := Lib.hid (below_2 HD10.out hb)
  clear hb y0 y1 y2
  have y0 := HE11.out.fb5.cell 0
  have y1 := HE11.out.fb5.cell 1
  have y2 := HE11.out.fb5.cell 2
  simp only [List.getElem?_toArray, List.getElem?_cons_zero, List.getElem?_cons_succ] at y0 y1 y2
  have HC11 := Lib.hid (c_C HE11.out (HT.out.below HD11.out))
  go_wp2_with fail
  refine HC11.out.mono ?_; rintro e' z11 ⟨rfl, hb⟩
  have HE12 := Lib.hid (HE11.out.below hb)
  have HD12 := Lib.hid (below_2 HD11.out hb)
  clear hb y0 y1 y2
  go_wp2_with fail
  go_ret
  exact ⟨rfl, HD12.out⟩
theorem wk_holds : Wk := works_any
end Go.Proofs.YtnelpgeiioflmaaGreatDoor.F
