/-
  The laws of layer 11: the law package's examples: the region that lays the first procedure, in whatever order.
-/
import Derived.Test.YtkjefigebdbkaaaDoorN19
import Derived.Test.YtkjefigebdbkaaaDoorN20
namespace Go.Proofs.YtkjefigebdbkaaaDoor.Y
open Go.RowKit
open L (Str isName prt size_len below_2 below_box ret_bool ret_int eql_eq bytes_eq)
open A (Bx)
open P (G Kd On off_of wp_region_G)

/-- a region's operations -/
def findR (n : Nat) : Code → Option (Array Oper)
  | .region i ops _ => match Nat.beq i n with
    | true => some ops
    | false => none
  | .seq a b => match findR n a with
    | some c => some c
    | none => findR n b
  | .block _ c => findR n c
  | .scope c => findR n c
  | .loop c => findR n c
  | .cond _ a b => match findR n a with
    | some c => some c
    | none => findR n b
  | _ => none
noncomputable def opsW (n : Nat) : Array Oper := ((Tryd.f8.body.bind (findR n)).getD #[])
theorem set3_keep {w : World} {g g' : Nat} {a b c : Value} (hne : g' ≠ g) : (((w.setCell ⟨g, 0, none⟩ a).setCell ⟨g, 1, none⟩ b).setCell ⟨g, 2, none⟩ c).heap[g']? = w.heap[g']? :=
  (Below.heap_setCell _ _ _ _ hne).trans ((Below.heap_setCell _ _ _ _ hne).trans (Below.heap_setCell _ _ _ _ hne))
theorem set3_below {W w : World} {g : Nat} {a b c : Value} (hb : Below W.heap.size W w) (hz : W.heap.size ≤ g) : Below W.heap.size W (((w.setCell ⟨g, 0, none⟩ a).setCell ⟨g, 1, none⟩ b).setCell ⟨g, 2, none⟩ c) :=
  ((hb.setCell (p := ⟨g, 0, none⟩) hz a).setCell (p := ⟨g, 1, none⟩) hz b).setCell (p := ⟨g, 2, none⟩) hz c
theorem set3_bx {w : World} {g : Nat} {x y z a b c : Value} {t : TypeId} (h : Bx w g #[x, y, z] t) : Bx (((w.setCell ⟨g, 0, none⟩ a).setCell ⟨g, 1, none⟩ b).setCell ⟨g, 2, none⟩ c) g #[a, b, c] t := by
  have := ((h.set 0 (u := a)).set 1 (u := b)).set 2 (u := c)
  simpa using this
set_option maxHeartbeats 16000000 in
set_option maxRecDepth 1000000 in
theorem regW5 {h q1 q4 q7 : Nat} {W : World} {Q : Exit → Act → World → Prop} (HO : Hid (∀ w : World, Calls Tryd.prog 21 #[] w fun e w' => e = .returned (.agg #[.int .i64 1, .int .i64 1, .string ⟨#[]⟩, .slice none 0 0]) ∧ Below w.heap.size w w')) (HNx : Hid (∀ w : World, Calls Tryd.prog 20 #[.string ⟨#[120]⟩] w fun e w' => e = .returned (.agg #[.int .i64 3, .int .i64 0, .string ⟨#[120]⟩, .slice none 0 0]) ∧ Below w.heap.size w w')) (HX : Hid (Bx W (h + 1) #[.int .i64 24, .int .i64 0, .string ⟨#[]⟩, .slice (some ⟨h, 0, none⟩) 1 1] 46)) (hQ : ∀ (g9 g7 g3 : Nat) (w' : World), Below W.heap.size W w' → Bx w' g9 #[.string ⟨#[112]⟩, .slice none 0 0, .slice (some ⟨g7, 0, none⟩) 2 2] 25 → Bx w' g7 #[.int .i64 5, .string ⟨#[]⟩, .int .i64 0, .int .i64 24, .int .i64 0, .string ⟨#[]⟩, .slice (some ⟨h, 0, none⟩) 1 1, .int .i64 0, .int .i64 0, .string ⟨#[]⟩, .slice none 0 0, .slice (some ⟨g3, 0, none⟩) 1 1, .slice none 0 0, .int .i64 7, .string ⟨#[]⟩, .int .i64 0, .int .i64 3, .int .i64 0, .string ⟨#[120]⟩, .slice none 0 0, .int .i64 0, .int .i64 0, .string ⟨#[]⟩, .slice none 0 0, .slice none 0 0, .slice none 0 0] 48 → Bx w' g3 #[.int .i64 1, .string ⟨#[120]⟩, .int .i64 0, .int .i64 1, .int .i64 1, .string ⟨#[]⟩, .slice none 0 0, .int .i64 0, .int .i64 0, .string ⟨#[]⟩, .slice none 0 0, .slice none 0 0, .slice none 0 0] 48 → (∀ u0 u1 u2 u3 u4 u5 u6 u7 u8 : Value, Q .normal { tmps := #[.bool false, .int .i64 2, .int .i64 0, .int .i64 0, .int .i64 10, .int .i64 0, .int .i64 11, .pointer (some ⟨h + 1, 0, none⟩), (.pointer (some ⟨g9, 0, none⟩)), undef, undef, undef, .tuple #[.int .i64 2, .int .i64 0], .agg #[.int .i64 3, .int .i64 0, .string ⟨#[120]⟩, .slice none 0 0], .slice (some ⟨q1, 0, none⟩) 1 1, .agg #[.int .i64 20, .int .i64 0, .string ⟨#[]⟩, .slice (some ⟨q1, 0, none⟩) 1 1], .agg #[.string ⟨#[120]⟩, .int .i64 1], .slice (some ⟨q1 + 1, 0, none⟩) 1 1, .tuple #[.int .i64 2, .int .i64 0], .int .i64 2, .int .i64 0, .tuple #[.int .i64 0, .int .i64 10], .agg #[.int .i64 1, .int .i64 1, .string ⟨#[]⟩, .slice none 0 0], .agg #[.int .i64 2, .int .i64 0, .string ⟨#[97]⟩, .slice none 0 0], .slice (some ⟨q4, 0, none⟩) 2 2, .agg #[.int .i64 4, .int .i64 0, .string ⟨#[]⟩, .slice (some ⟨q4, 0, none⟩) 2 2], .tuple #[.int .i64 0, .int .i64 10], .int .i64 0, .int .i64 10, .tuple #[.int .i64 0, .int .i64 11], .agg #[.int .i64 3, .int .i64 0, .string ⟨#[120]⟩, .slice none 0 0], .agg #[.int .i64 2, .int .i64 0, .string ⟨#[97]⟩, .slice none 0 0], .slice (some ⟨q7, 0, none⟩) 2 2, .agg #[.int .i64 4, .int .i64 0, .string ⟨#[]⟩, .slice (some ⟨q7, 0, none⟩) 2 2], .tuple #[.int .i64 0, .int .i64 11], .int .i64 0, .int .i64 11, .agg #[.int .i64 2, .int .i64 0, .string ⟨#[107]⟩, .slice none 0 0], .slice (some ⟨h, 0, none⟩) 1 1, .agg #[.int .i64 24, .int .i64 0, .string ⟨#[]⟩, .slice (some ⟨h, 0, none⟩) 1 1], u0, u1, u2, u3, u4, u5, u6, u7, u8, undef, undef, undef, undef, undef, undef, undef, undef, undef, undef, undef, undef, undef, undef, undef, undef, undef, undef, undef, undef, undef, undef, undef, undef, undef, undef, undef, undef, undef, undef, undef, undef, undef, undef, undef, undef, undef, undef, undef, undef, undef, undef, undef, undef, undef, undef, undef, undef, undef, undef, undef, undef, undef, undef, undef, undef, undef, undef, undef, undef, undef, undef, undef, undef, undef, undef, undef, undef, undef, undef, undef, undef, undef, undef, undef, undef, undef, undef, undef, undef, undef, undef, undef, undef, undef, undef, undef, undef], defers := [] } w')) :
    Code.wp Tryd.prog (Code.region 5 (opsW 5) true) Q { tmps := #[.bool false, .int .i64 2, .int .i64 0, .int .i64 0, .int .i64 10, .int .i64 0, .int .i64 11, .pointer (some ⟨h + 1, 0, none⟩), undef, undef, undef, undef, .tuple #[.int .i64 2, .int .i64 0], .agg #[.int .i64 3, .int .i64 0, .string ⟨#[120]⟩, .slice none 0 0], .slice (some ⟨q1, 0, none⟩) 1 1, .agg #[.int .i64 20, .int .i64 0, .string ⟨#[]⟩, .slice (some ⟨q1, 0, none⟩) 1 1], .agg #[.string ⟨#[120]⟩, .int .i64 1], .slice (some ⟨q1 + 1, 0, none⟩) 1 1, .tuple #[.int .i64 2, .int .i64 0], .int .i64 2, .int .i64 0, .tuple #[.int .i64 0, .int .i64 10], .agg #[.int .i64 1, .int .i64 1, .string ⟨#[]⟩, .slice none 0 0], .agg #[.int .i64 2, .int .i64 0, .string ⟨#[97]⟩, .slice none 0 0], .slice (some ⟨q4, 0, none⟩) 2 2, .agg #[.int .i64 4, .int .i64 0, .string ⟨#[]⟩, .slice (some ⟨q4, 0, none⟩) 2 2], .tuple #[.int .i64 0, .int .i64 10], .int .i64 0, .int .i64 10, .tuple #[.int .i64 0, .int .i64 11], .agg #[.int .i64 3, .int .i64 0, .string ⟨#[120]⟩, .slice none 0 0], .agg #[.int .i64 2, .int .i64 0, .string ⟨#[97]⟩, .slice none 0 0], .slice (some ⟨q7, 0, none⟩) 2 2, .agg #[.int .i64 4, .int .i64 0, .string ⟨#[]⟩, .slice (some ⟨q7, 0, none⟩) 2 2], .tuple #[.int .i64 0, .int .i64 11], .int .i64 0, .int .i64 11, .agg #[.int .i64 2, .int .i64 0, .string ⟨#[107]⟩, .slice none 0 0], .slice (some ⟨h, 0, none⟩) 1 1, .agg #[.int .i64 24, .int .i64 0, .string ⟨#[]⟩, .slice (some ⟨h, 0, none⟩) 1 1], undef, undef, undef, undef, undef, undef, undef, undef, undef, undef, undef, undef, undef, undef, undef, undef, undef, undef, undef, undef, undef, undef, undef, undef, undef, undef, undef, undef, undef, undef, undef, undef, undef, undef, undef, undef, undef, undef, undef, undef, undef, undef, undef, undef, undef, undef, undef, undef, undef, undef, undef, undef, undef, undef, undef, undef, undef, undef, undef, undef, undef, undef, undef, undef, undef, undef, undef, undef, undef, undef, undef, undef, undef, undef, undef, undef, undef, undef, undef, undef, undef, undef, undef, undef, undef, undef, undef, undef, undef, undef, undef, undef, undef, undef, undef, undef, undef], defers := [] } W := by
  conv => arg 2; arg 2; whnf
  refine wp_region_G rfl [.val [] (fun _ => .agg #[.int .i64 24, .int .i64 0, .string ⟨#[]⟩, .slice (some ⟨h, 0, none⟩) 1 1]), .val [] (fun _ => .agg #[.int .i64 1, .int .i64 1, .string ⟨#[]⟩, .slice none 0 0]), .val [] (fun _ => .agg #[.int .i64 1, .string ⟨#[120]⟩, .int .i64 0, .int .i64 1, .int .i64 1, .string ⟨#[]⟩, .slice none 0 0, .int .i64 0, .int .i64 0, .string ⟨#[]⟩, .slice none 0 0, .slice none 0 0, .slice none 0 0]), .blk 1 [] (fun _ => #[.int .i64 1, .string ⟨#[120]⟩, .int .i64 0, .int .i64 1, .int .i64 1, .string ⟨#[]⟩, .slice none 0 0, .int .i64 0, .int .i64 0, .string ⟨#[]⟩, .slice none 0 0, .slice none 0 0, .slice none 0 0]) 48, .val [3] (fun xs => .agg #[.int .i64 5, .string ⟨#[]⟩, .int .i64 0, .int .i64 24, .int .i64 0, .string ⟨#[]⟩, .slice (some ⟨h, 0, none⟩) 1 1, .int .i64 0, .int .i64 0, .string ⟨#[]⟩, .slice none 0 0, xs.getD 0 undef, .slice none 0 0]), .val [] (fun _ => .agg #[.int .i64 3, .int .i64 0, .string ⟨#[120]⟩, .slice none 0 0]), .val [] (fun _ => .agg #[.int .i64 7, .string ⟨#[]⟩, .int .i64 0, .int .i64 3, .int .i64 0, .string ⟨#[120]⟩, .slice none 0 0, .int .i64 0, .int .i64 0, .string ⟨#[]⟩, .slice none 0 0, .slice none 0 0, .slice none 0 0]), .blk 2 [3] (fun xs => #[.int .i64 5, .string ⟨#[]⟩, .int .i64 0, .int .i64 24, .int .i64 0, .string ⟨#[]⟩, .slice (some ⟨h, 0, none⟩) 1 1, .int .i64 0, .int .i64 0, .string ⟨#[]⟩, .slice none 0 0, xs.getD 0 undef, .slice none 0 0, .int .i64 7, .string ⟨#[]⟩, .int .i64 0, .int .i64 3, .int .i64 0, .string ⟨#[120]⟩, .slice none 0 0, .int .i64 0, .int .i64 0, .string ⟨#[]⟩, .slice none 0 0, .slice none 0 0, .slice none 0 0]) 48, .val [7] (fun xs => .agg #[.string ⟨#[112]⟩, .slice none 0 0, xs.getD 0 undef]), .cell #[.string ⟨#[]⟩, .slice none 0 0, .slice none 0 0] 25 10 [7] (fun xs => #[.string ⟨#[112]⟩, .slice none 0 0, xs.getD 0 undef]), .non] (fun ks ops l a w' => ∃ v0 v1 v2 v3 v4 v5 v6 v7 v8 v9 v10 : Value, a = { tmps := #[.bool false, .int .i64 2, .int .i64 0, .int .i64 0, .int .i64 10, .int .i64 0, .int .i64 11, .pointer (some ⟨h + 1, 0, none⟩), v9, undef, undef, undef, .tuple #[.int .i64 2, .int .i64 0], .agg #[.int .i64 3, .int .i64 0, .string ⟨#[120]⟩, .slice none 0 0], .slice (some ⟨q1, 0, none⟩) 1 1, .agg #[.int .i64 20, .int .i64 0, .string ⟨#[]⟩, .slice (some ⟨q1, 0, none⟩) 1 1], .agg #[.string ⟨#[120]⟩, .int .i64 1], .slice (some ⟨q1 + 1, 0, none⟩) 1 1, .tuple #[.int .i64 2, .int .i64 0], .int .i64 2, .int .i64 0, .tuple #[.int .i64 0, .int .i64 10], .agg #[.int .i64 1, .int .i64 1, .string ⟨#[]⟩, .slice none 0 0], .agg #[.int .i64 2, .int .i64 0, .string ⟨#[97]⟩, .slice none 0 0], .slice (some ⟨q4, 0, none⟩) 2 2, .agg #[.int .i64 4, .int .i64 0, .string ⟨#[]⟩, .slice (some ⟨q4, 0, none⟩) 2 2], .tuple #[.int .i64 0, .int .i64 10], .int .i64 0, .int .i64 10, .tuple #[.int .i64 0, .int .i64 11], .agg #[.int .i64 3, .int .i64 0, .string ⟨#[120]⟩, .slice none 0 0], .agg #[.int .i64 2, .int .i64 0, .string ⟨#[97]⟩, .slice none 0 0], .slice (some ⟨q7, 0, none⟩) 2 2, .agg #[.int .i64 4, .int .i64 0, .string ⟨#[]⟩, .slice (some ⟨q7, 0, none⟩) 2 2], .tuple #[.int .i64 0, .int .i64 11], .int .i64 0, .int .i64 11, .agg #[.int .i64 2, .int .i64 0, .string ⟨#[107]⟩, .slice none 0 0], .slice (some ⟨h, 0, none⟩) 1 1, .agg #[.int .i64 24, .int .i64 0, .string ⟨#[]⟩, .slice (some ⟨h, 0, none⟩) 1 1], v0, v1, v2, v3, v4, v5, v6, v7, v8, undef, undef, undef, undef, undef, undef, undef, undef, undef, undef, undef, undef, undef, undef, undef, undef, undef, undef, undef, undef, undef, undef, undef, undef, undef, undef, undef, undef, undef, undef, undef, undef, undef, undef, undef, undef, undef, undef, undef, undef, undef, undef, undef, undef, undef, undef, undef, undef, undef, undef, undef, undef, undef, undef, undef, undef, undef, undef, undef, undef, undef, undef, undef, undef, undef, undef, undef, undef, undef, undef, undef, undef, undef, undef, undef, undef, undef, undef, undef, undef, undef, undef, undef, undef, undef, undef, undef, undef], defers := [] } ∧ G ks ops W l w' [v0, v1, v2, v3, v4, v5, v6, v7, v8, v9, v10]) (by kernel_rfl) (by kernel_rfl) ?_ ?_ ?_
  · intro l hl
    exact ⟨undef, undef, undef, undef, undef, undef, undef, undef, undef, undef, undef, rfl, G.start _ _ hl _⟩
  · intro hok l a w' hI i hi h0 hall
    obtain ⟨v0, hI⟩ := hI
    obtain ⟨v1, hI⟩ := hI
    obtain ⟨v2, hI⟩ := hI
    obtain ⟨v3, hI⟩ := hI
    obtain ⟨v4, hI⟩ := hI
    obtain ⟨v5, hI⟩ := hI
    obtain ⟨v6, hI⟩ := hI
    obtain ⟨v7, hI⟩ := hI
    obtain ⟨v8, hI⟩ := hI
    obtain ⟨v9, hI⟩ := hI
    obtain ⟨v10, hI⟩ := hI
    obtain ⟨rfl, F⟩ := hI
    match i, hi, h0, hall with
    | 0, _, h0, hall =>
      have x := HX.out.below F.bel
      have x_0 : w'.cell? ⟨h + 1, 0, none⟩ = some (.int .i64 24) := x.cell 0
      have x_1 : w'.cell? ⟨h + 1, 1, none⟩ = some (.int .i64 0) := x.cell 1
      have x_2 : w'.cell? ⟨h + 1, 2, none⟩ = some (.string ⟨#[]⟩) := x.cell 2
      have x_3 : w'.cell? ⟨h + 1, 3, none⟩ = some (.slice (some ⟨h, 0, none⟩) 1 1) := x.cell 3
      clear x
      have HF := Lib.hid (show G _ _ _ _ _ [.agg #[.int .i64 24, .int .i64 0, .string ⟨#[]⟩, .slice (some ⟨h, 0, none⟩) 1 1], v1, v2, v3, v4, v5, v6, v7, v8, v9, v10] from G.val hok F h0 hall (x := .agg #[.int .i64 24, .int .i64 0, .string ⟨#[]⟩, .slice (some ⟨h, 0, none⟩) 1 1]) rfl (show 0 < 11 by decide) (Below.refl _ _) rfl)
      clear F hall h0
      refine wpOp_step (by rfl) (fun K' hK => ?_)
      have HKk := Lib.hid hK
      clear hK
      go_simp
      exact HKk.out _ _ ⟨.agg #[.int .i64 24, .int .i64 0, .string ⟨#[]⟩, .slice (some ⟨h, 0, none⟩) 1 1], v1, v2, v3, v4, v5, v6, v7, v8, v9, v10, rfl, HF.out⟩
    | 1, _, h0, hall =>
      have HF := Lib.hid (fun w2 (hb : Below w'.heap.size w' w2) => show G _ _ _ _ w2 [v0, .agg #[.int .i64 1, .int .i64 1, .string ⟨#[]⟩, .slice none 0 0], v2, v3, v4, v5, v6, v7, v8, v9, v10] from G.val hok F h0 hall (x := .agg #[.int .i64 1, .int .i64 1, .string ⟨#[]⟩, .slice none 0 0]) rfl (show 1 < 11 by decide) hb rfl)
      clear F hall h0
      refine wpOp_step (by rfl) (fun K' hK => ?_)
      have HKk := Lib.hid hK
      clear hK
      go_simp
      refine (HO.out _).mono ?_
      rintro er w2 ⟨rfl, hb⟩
      replace HF := Lib.hid (HF.out w2 hb)
      exact HKk.out _ _ ⟨v0, .agg #[.int .i64 1, .int .i64 1, .string ⟨#[]⟩, .slice none 0 0], v2, v3, v4, v5, v6, v7, v8, v9, v10, rfl, HF.out⟩
    | 2, _, h0, hall =>
      obtain rfl : v1 = .agg #[.int .i64 1, .int .i64 1, .string ⟨#[]⟩, .slice none 0 0] := F.fs 1 (hall 1 (by decide +kernel))
      have HF := Lib.hid (show G _ _ _ _ _ [v0, (.agg #[.int .i64 1, .int .i64 1, .string ⟨#[]⟩, .slice none 0 0]), .agg #[.int .i64 1, .string ⟨#[120]⟩, .int .i64 0, .int .i64 1, .int .i64 1, .string ⟨#[]⟩, .slice none 0 0, .int .i64 0, .int .i64 0, .string ⟨#[]⟩, .slice none 0 0, .slice none 0 0, .slice none 0 0], v3, v4, v5, v6, v7, v8, v9, v10] from G.val hok F h0 hall (x := .agg #[.int .i64 1, .string ⟨#[120]⟩, .int .i64 0, .int .i64 1, .int .i64 1, .string ⟨#[]⟩, .slice none 0 0, .int .i64 0, .int .i64 0, .string ⟨#[]⟩, .slice none 0 0, .slice none 0 0, .slice none 0 0]) rfl (show 2 < 11 by decide) (Below.refl _ _) rfl)
      clear F hall h0
      refine wpOp_step (by rfl) (fun K' hK => ?_)
      have HKk := Lib.hid hK
      clear hK
      go_simp
      exact HKk.out _ _ ⟨v0, (.agg #[.int .i64 1, .int .i64 1, .string ⟨#[]⟩, .slice none 0 0]), .agg #[.int .i64 1, .string ⟨#[120]⟩, .int .i64 0, .int .i64 1, .int .i64 1, .string ⟨#[]⟩, .slice none 0 0, .int .i64 0, .int .i64 0, .string ⟨#[]⟩, .slice none 0 0, .slice none 0 0, .slice none 0 0], v3, v4, v5, v6, v7, v8, v9, v10, rfl, HF.out⟩
    | 3, _, h0, hall =>
      obtain rfl : v2 = .agg #[.int .i64 1, .string ⟨#[120]⟩, .int .i64 0, .int .i64 1, .int .i64 1, .string ⟨#[]⟩, .slice none 0 0, .int .i64 0, .int .i64 0, .string ⟨#[]⟩, .slice none 0 0, .slice none 0 0, .slice none 0 0] := F.fs 2 (hall 2 (by decide +kernel))
      have HF := Lib.hid (show G _ _ _ _ _ [v0, v1, (.agg #[.int .i64 1, .string ⟨#[120]⟩, .int .i64 0, .int .i64 1, .int .i64 1, .string ⟨#[]⟩, .slice none 0 0, .int .i64 0, .int .i64 0, .string ⟨#[]⟩, .slice none 0 0, .slice none 0 0, .slice none 0 0]), .slice (some ⟨w'.heap.size, 0, none⟩) 1 1, v4, v5, v6, v7, v8, v9, v10] from G.blk hok F h0 hall rfl (show 3 < 11 by decide) rfl)
      clear F hall h0
      refine wpOp_step (by rfl) (fun K' hK => ?_)
      have HKk := Lib.hid hK
      clear hK
      go_simp
      exact HKk.out _ _ ⟨v0, v1, (.agg #[.int .i64 1, .string ⟨#[120]⟩, .int .i64 0, .int .i64 1, .int .i64 1, .string ⟨#[]⟩, .slice none 0 0, .int .i64 0, .int .i64 0, .string ⟨#[]⟩, .slice none 0 0, .slice none 0 0, .slice none 0 0]), .slice (some ⟨w'.heap.size, 0, none⟩) 1 1, v4, v5, v6, v7, v8, v9, v10, rfl, HF.out⟩
    | 4, _, h0, hall =>
      obtain rfl : v0 = .agg #[.int .i64 24, .int .i64 0, .string ⟨#[]⟩, .slice (some ⟨h, 0, none⟩) 1 1] := F.fs 0 (hall 0 (by decide +kernel))
      obtain ⟨g3, e3, x3⟩ : ∃ q, v3 = .slice (some ⟨q, 0, none⟩) 1 1 ∧ Bx w' q #[.int .i64 1, .string ⟨#[120]⟩, .int .i64 0, .int .i64 1, .int .i64 1, .string ⟨#[]⟩, .slice none 0 0, .int .i64 0, .int .i64 0, .string ⟨#[]⟩, .slice none 0 0, .slice none 0 0, .slice none 0 0] 48 := F.fs 3 (hall 3 (by decide +kernel))
      subst e3
      have HF := Lib.hid (show G _ _ _ _ _ [(.agg #[.int .i64 24, .int .i64 0, .string ⟨#[]⟩, .slice (some ⟨h, 0, none⟩) 1 1]), v1, v2, (.slice (some ⟨g3, 0, none⟩) 1 1), .agg #[.int .i64 5, .string ⟨#[]⟩, .int .i64 0, .int .i64 24, .int .i64 0, .string ⟨#[]⟩, .slice (some ⟨h, 0, none⟩) 1 1, .int .i64 0, .int .i64 0, .string ⟨#[]⟩, .slice none 0 0, .slice (some ⟨g3, 0, none⟩) 1 1, .slice none 0 0], v5, v6, v7, v8, v9, v10] from G.val hok F h0 hall (x := .agg #[.int .i64 5, .string ⟨#[]⟩, .int .i64 0, .int .i64 24, .int .i64 0, .string ⟨#[]⟩, .slice (some ⟨h, 0, none⟩) 1 1, .int .i64 0, .int .i64 0, .string ⟨#[]⟩, .slice none 0 0, .slice (some ⟨g3, 0, none⟩) 1 1, .slice none 0 0]) rfl (show 4 < 11 by decide) (Below.refl _ _) rfl)
      clear F hall h0
      refine wpOp_step (by rfl) (fun K' hK => ?_)
      have HKk := Lib.hid hK
      clear hK
      go_simp
      exact HKk.out _ _ ⟨(.agg #[.int .i64 24, .int .i64 0, .string ⟨#[]⟩, .slice (some ⟨h, 0, none⟩) 1 1]), v1, v2, (.slice (some ⟨g3, 0, none⟩) 1 1), .agg #[.int .i64 5, .string ⟨#[]⟩, .int .i64 0, .int .i64 24, .int .i64 0, .string ⟨#[]⟩, .slice (some ⟨h, 0, none⟩) 1 1, .int .i64 0, .int .i64 0, .string ⟨#[]⟩, .slice none 0 0, .slice (some ⟨g3, 0, none⟩) 1 1, .slice none 0 0], v5, v6, v7, v8, v9, v10, rfl, HF.out⟩
    | 5, _, h0, hall =>
      have HF := Lib.hid (fun w2 (hb : Below w'.heap.size w' w2) => show G _ _ _ _ w2 [v0, v1, v2, v3, v4, .agg #[.int .i64 3, .int .i64 0, .string ⟨#[120]⟩, .slice none 0 0], v6, v7, v8, v9, v10] from G.val hok F h0 hall (x := .agg #[.int .i64 3, .int .i64 0, .string ⟨#[120]⟩, .slice none 0 0]) rfl (show 5 < 11 by decide) hb rfl)
      clear F hall h0
      refine wpOp_step (by rfl) (fun K' hK => ?_)
      have HKk := Lib.hid hK
      clear hK
      go_simp
      refine (HNx.out _).mono ?_
      rintro er w2 ⟨rfl, hb⟩
      replace HF := Lib.hid (HF.out w2 hb)
      exact HKk.out _ _ ⟨v0, v1, v2, v3, v4, .agg #[.int .i64 3, .int .i64 0, .string ⟨#[120]⟩, .slice none 0 0], v6, v7, v8, v9, v10, rfl, HF.out⟩
    | 6, _, h0, hall =>
      obtain rfl : v5 = .agg #[.int .i64 3, .int .i64 0, .string ⟨#[120]⟩, .slice none 0 0] := F.fs 5 (hall 5 (by decide +kernel))
      have HF := Lib.hid (show G _ _ _ _ _ [v0, v1, v2, v3, v4, (.agg #[.int .i64 3, .int .i64 0, .string ⟨#[120]⟩, .slice none 0 0]), .agg #[.int .i64 7, .string ⟨#[]⟩, .int .i64 0, .int .i64 3, .int .i64 0, .string ⟨#[120]⟩, .slice none 0 0, .int .i64 0, .int .i64 0, .string ⟨#[]⟩, .slice none 0 0, .slice none 0 0, .slice none 0 0], v7, v8, v9, v10] from G.val hok F h0 hall (x := .agg #[.int .i64 7, .string ⟨#[]⟩, .int .i64 0, .int .i64 3, .int .i64 0, .string ⟨#[120]⟩, .slice none 0 0, .int .i64 0, .int .i64 0, .string ⟨#[]⟩, .slice none 0 0, .slice none 0 0, .slice none 0 0]) rfl (show 6 < 11 by decide) (Below.refl _ _) rfl)
      clear F hall h0
      refine wpOp_step (by rfl) (fun K' hK => ?_)
      have HKk := Lib.hid hK
      clear hK
      go_simp
      exact HKk.out _ _ ⟨v0, v1, v2, v3, v4, (.agg #[.int .i64 3, .int .i64 0, .string ⟨#[120]⟩, .slice none 0 0]), .agg #[.int .i64 7, .string ⟨#[]⟩, .int .i64 0, .int .i64 3, .int .i64 0, .string ⟨#[120]⟩, .slice none 0 0, .int .i64 0, .int .i64 0, .string ⟨#[]⟩, .slice none 0 0, .slice none 0 0, .slice none 0 0], v7, v8, v9, v10, rfl, HF.out⟩
    | 7, _, h0, hall =>
      obtain ⟨g3, e3, x3⟩ : ∃ q, v3 = .slice (some ⟨q, 0, none⟩) 1 1 ∧ Bx w' q #[.int .i64 1, .string ⟨#[120]⟩, .int .i64 0, .int .i64 1, .int .i64 1, .string ⟨#[]⟩, .slice none 0 0, .int .i64 0, .int .i64 0, .string ⟨#[]⟩, .slice none 0 0, .slice none 0 0, .slice none 0 0] 48 := F.fs 3 (F.cl 4 (hall 4 (by decide +kernel)) 3 (by decide +kernel))
      subst e3
      obtain rfl : v4 = .agg #[.int .i64 5, .string ⟨#[]⟩, .int .i64 0, .int .i64 24, .int .i64 0, .string ⟨#[]⟩, .slice (some ⟨h, 0, none⟩) 1 1, .int .i64 0, .int .i64 0, .string ⟨#[]⟩, .slice none 0 0, .slice (some ⟨g3, 0, none⟩) 1 1, .slice none 0 0] := F.fs 4 (hall 4 (by decide +kernel))
      obtain rfl : v6 = .agg #[.int .i64 7, .string ⟨#[]⟩, .int .i64 0, .int .i64 3, .int .i64 0, .string ⟨#[120]⟩, .slice none 0 0, .int .i64 0, .int .i64 0, .string ⟨#[]⟩, .slice none 0 0, .slice none 0 0, .slice none 0 0] := F.fs 6 (hall 6 (by decide +kernel))
      have HF := Lib.hid (show G _ _ _ _ _ [v0, v1, v2, (.slice (some ⟨g3, 0, none⟩) 1 1), (.agg #[.int .i64 5, .string ⟨#[]⟩, .int .i64 0, .int .i64 24, .int .i64 0, .string ⟨#[]⟩, .slice (some ⟨h, 0, none⟩) 1 1, .int .i64 0, .int .i64 0, .string ⟨#[]⟩, .slice none 0 0, .slice (some ⟨g3, 0, none⟩) 1 1, .slice none 0 0]), v5, (.agg #[.int .i64 7, .string ⟨#[]⟩, .int .i64 0, .int .i64 3, .int .i64 0, .string ⟨#[120]⟩, .slice none 0 0, .int .i64 0, .int .i64 0, .string ⟨#[]⟩, .slice none 0 0, .slice none 0 0, .slice none 0 0]), .slice (some ⟨w'.heap.size, 0, none⟩) 2 2, v8, v9, v10] from G.blk hok F h0 hall rfl (show 7 < 11 by decide) rfl)
      clear F hall h0
      refine wpOp_step (by rfl) (fun K' hK => ?_)
      have HKk := Lib.hid hK
      clear hK
      go_simp
      exact HKk.out _ _ ⟨v0, v1, v2, (.slice (some ⟨g3, 0, none⟩) 1 1), (.agg #[.int .i64 5, .string ⟨#[]⟩, .int .i64 0, .int .i64 24, .int .i64 0, .string ⟨#[]⟩, .slice (some ⟨h, 0, none⟩) 1 1, .int .i64 0, .int .i64 0, .string ⟨#[]⟩, .slice none 0 0, .slice (some ⟨g3, 0, none⟩) 1 1, .slice none 0 0]), v5, (.agg #[.int .i64 7, .string ⟨#[]⟩, .int .i64 0, .int .i64 3, .int .i64 0, .string ⟨#[120]⟩, .slice none 0 0, .int .i64 0, .int .i64 0, .string ⟨#[]⟩, .slice none 0 0, .slice none 0 0, .slice none 0 0]), .slice (some ⟨w'.heap.size, 0, none⟩) 2 2, v8, v9, v10, rfl, HF.out⟩
    | 8, _, h0, hall =>
      obtain ⟨g3, e3, x3⟩ : ∃ q, v3 = .slice (some ⟨q, 0, none⟩) 1 1 ∧ Bx w' q #[.int .i64 1, .string ⟨#[120]⟩, .int .i64 0, .int .i64 1, .int .i64 1, .string ⟨#[]⟩, .slice none 0 0, .int .i64 0, .int .i64 0, .string ⟨#[]⟩, .slice none 0 0, .slice none 0 0, .slice none 0 0] 48 := F.fs 3 (F.cl 4 (F.cl 7 (hall 7 (by decide +kernel)) 4 (by decide +kernel)) 3 (by decide +kernel))
      subst e3
      obtain ⟨g7, e7, x7⟩ : ∃ q, v7 = .slice (some ⟨q, 0, none⟩) 2 2 ∧ Bx w' q #[.int .i64 5, .string ⟨#[]⟩, .int .i64 0, .int .i64 24, .int .i64 0, .string ⟨#[]⟩, .slice (some ⟨h, 0, none⟩) 1 1, .int .i64 0, .int .i64 0, .string ⟨#[]⟩, .slice none 0 0, .slice (some ⟨g3, 0, none⟩) 1 1, .slice none 0 0, .int .i64 7, .string ⟨#[]⟩, .int .i64 0, .int .i64 3, .int .i64 0, .string ⟨#[120]⟩, .slice none 0 0, .int .i64 0, .int .i64 0, .string ⟨#[]⟩, .slice none 0 0, .slice none 0 0, .slice none 0 0] 48 := F.fs 7 (hall 7 (by decide +kernel))
      subst e7
      have HF := Lib.hid (show G _ _ _ _ _ [v0, v1, v2, (.slice (some ⟨g3, 0, none⟩) 1 1), v4, v5, v6, (.slice (some ⟨g7, 0, none⟩) 2 2), .agg #[.string ⟨#[112]⟩, .slice none 0 0, .slice (some ⟨g7, 0, none⟩) 2 2], v9, v10] from G.val hok F h0 hall (x := .agg #[.string ⟨#[112]⟩, .slice none 0 0, .slice (some ⟨g7, 0, none⟩) 2 2]) rfl (show 8 < 11 by decide) (Below.refl _ _) rfl)
      clear F hall h0
      refine wpOp_step (by rfl) (fun K' hK => ?_)
      have HKk := Lib.hid hK
      clear hK
      go_simp
      exact HKk.out _ _ ⟨v0, v1, v2, (.slice (some ⟨g3, 0, none⟩) 1 1), v4, v5, v6, (.slice (some ⟨g7, 0, none⟩) 2 2), .agg #[.string ⟨#[112]⟩, .slice none 0 0, .slice (some ⟨g7, 0, none⟩) 2 2], v9, v10, rfl, HF.out⟩
    | 9, _, h0, hall =>
      have HF := Lib.hid (show G _ _ _ _ _ [v0, v1, v2, v3, v4, v5, v6, v7, v8, .pointer (some ⟨w'.heap.size, 0, none⟩), v10] from G.cell hok F h0 hall rfl (show 9 < 11 by decide))
      clear F hall h0
      refine wpOp_step (by rfl) (fun K' hK => ?_)
      have HKk := Lib.hid hK
      clear hK
      go_simp
      exact HKk.out _ _ ⟨v0, v1, v2, v3, v4, v5, v6, v7, v8, .pointer (some ⟨w'.heap.size, 0, none⟩), v10, rfl, HF.out⟩
    | 10, _, h0, hall =>
      obtain ⟨g3, e3, x3⟩ : ∃ q, v3 = .slice (some ⟨q, 0, none⟩) 1 1 ∧ Bx w' q #[.int .i64 1, .string ⟨#[120]⟩, .int .i64 0, .int .i64 1, .int .i64 1, .string ⟨#[]⟩, .slice none 0 0, .int .i64 0, .int .i64 0, .string ⟨#[]⟩, .slice none 0 0, .slice none 0 0, .slice none 0 0] 48 := F.fs 3 (F.cl 4 (F.cl 7 (F.cl 8 (hall 8 (by decide +kernel)) 7 (by decide +kernel)) 4 (by decide +kernel)) 3 (by decide +kernel))
      subst e3
      obtain ⟨g7, e7, x7⟩ : ∃ q, v7 = .slice (some ⟨q, 0, none⟩) 2 2 ∧ Bx w' q #[.int .i64 5, .string ⟨#[]⟩, .int .i64 0, .int .i64 24, .int .i64 0, .string ⟨#[]⟩, .slice (some ⟨h, 0, none⟩) 1 1, .int .i64 0, .int .i64 0, .string ⟨#[]⟩, .slice none 0 0, .slice (some ⟨g3, 0, none⟩) 1 1, .slice none 0 0, .int .i64 7, .string ⟨#[]⟩, .int .i64 0, .int .i64 3, .int .i64 0, .string ⟨#[120]⟩, .slice none 0 0, .int .i64 0, .int .i64 0, .string ⟨#[]⟩, .slice none 0 0, .slice none 0 0, .slice none 0 0] 48 := F.fs 7 (F.cl 8 (hall 8 (by decide +kernel)) 7 (by decide +kernel))
      subst e7
      obtain rfl : v8 = .agg #[.string ⟨#[112]⟩, .slice none 0 0, .slice (some ⟨g7, 0, none⟩) 2 2] := F.fs 8 (hall 8 (by decide +kernel))
      obtain ⟨g9, e9, hz, hx, _⟩ : ∃ q, v9 = .pointer (some ⟨q, 0, none⟩) ∧ W.heap.size ≤ q ∧ (¬ On l 10 → Bx w' q #[.string ⟨#[]⟩, .slice none 0 0, .slice none 0 0] 25) ∧ (On l 10 → Bx w' q #[.string ⟨#[112]⟩, .slice none 0 0, .slice (some ⟨g7, 0, none⟩) 2 2] 25) := F.fs 9 (hall 9 (by decide +kernel))
      subst e9
      have hg := hx (off_of h0)
      have x_0 := hg.cell 0
      have x_1 := hg.cell 1
      have x_2 := hg.cell 2
      have y_0 := hg.free 0
      have y_1 := hg.free 1
      have y_2 := hg.free 2
      simp at x_0 x_1 x_2
      have HF := Lib.hid (show G _ _ _ _ (((w'.setCell ⟨g9, 0, none⟩ (.string ⟨#[112]⟩)).setCell ⟨g9, 1, none⟩ (.slice none 0 0)).setCell ⟨g9, 2, none⟩ (.slice (some ⟨g7, 0, none⟩) 2 2)) [v0, v1, v2, (.slice (some ⟨g3, 0, none⟩) 1 1), v4, v5, v6, (.slice (some ⟨g7, 0, none⟩) 2 2), (.agg #[.string ⟨#[112]⟩, .slice none 0 0, .slice (some ⟨g7, 0, none⟩) 2 2]), (.pointer (some ⟨g9, 0, none⟩)), v10] from G.store hok F h0 hall (c := 9) (g := g9) rfl rfl (set3_below F.bel hz) (fun g' hne => set3_keep hne) (set3_bx hg))
      clear F hall h0
      refine wpOp_step (by rfl) (fun K' hK => ?_)
      have HKk := Lib.hid hK
      clear hK
      go_simp
      exact HKk.out _ _ ⟨v0, v1, v2, (.slice (some ⟨g3, 0, none⟩) 1 1), v4, v5, v6, (.slice (some ⟨g7, 0, none⟩) 2 2), (.agg #[.string ⟨#[112]⟩, .slice none 0 0, .slice (some ⟨g7, 0, none⟩) 2 2]), (.pointer (some ⟨g9, 0, none⟩)), v10, rfl, HF.out⟩
  · intro l a w' hI hall
    obtain ⟨v0, hI⟩ := hI
    obtain ⟨v1, hI⟩ := hI
    obtain ⟨v2, hI⟩ := hI
    obtain ⟨v3, hI⟩ := hI
    obtain ⟨v4, hI⟩ := hI
    obtain ⟨v5, hI⟩ := hI
    obtain ⟨v6, hI⟩ := hI
    obtain ⟨v7, hI⟩ := hI
    obtain ⟨v8, hI⟩ := hI
    obtain ⟨v9, hI⟩ := hI
    obtain ⟨v10, hI⟩ := hI
    obtain ⟨rfl, F⟩ := hI
    obtain ⟨g3, e3, x3⟩ : ∃ q, v3 = .slice (some ⟨q, 0, none⟩) 1 1 ∧ Bx w' q #[.int .i64 1, .string ⟨#[120]⟩, .int .i64 0, .int .i64 1, .int .i64 1, .string ⟨#[]⟩, .slice none 0 0, .int .i64 0, .int .i64 0, .string ⟨#[]⟩, .slice none 0 0, .slice none 0 0, .slice none 0 0] 48 := F.fs 3 (hall 3 (by decide +kernel))
    subst e3
    obtain ⟨g7, e7, x7⟩ : ∃ q, v7 = .slice (some ⟨q, 0, none⟩) 2 2 ∧ Bx w' q #[.int .i64 5, .string ⟨#[]⟩, .int .i64 0, .int .i64 24, .int .i64 0, .string ⟨#[]⟩, .slice (some ⟨h, 0, none⟩) 1 1, .int .i64 0, .int .i64 0, .string ⟨#[]⟩, .slice none 0 0, .slice (some ⟨g3, 0, none⟩) 1 1, .slice none 0 0, .int .i64 7, .string ⟨#[]⟩, .int .i64 0, .int .i64 3, .int .i64 0, .string ⟨#[120]⟩, .slice none 0 0, .int .i64 0, .int .i64 0, .string ⟨#[]⟩, .slice none 0 0, .slice none 0 0, .slice none 0 0] 48 := F.fs 7 (hall 7 (by decide +kernel))
    subst e7
    obtain ⟨g9, e9, _, _, hx⟩ : ∃ q, v9 = .pointer (some ⟨q, 0, none⟩) ∧ W.heap.size ≤ q ∧ (¬ On l 10 → Bx w' q #[.string ⟨#[]⟩, .slice none 0 0, .slice none 0 0] 25) ∧ (On l 10 → Bx w' q #[.string ⟨#[112]⟩, .slice none 0 0, .slice (some ⟨g7, 0, none⟩) 2 2] 25) := F.fs 9 (hall 9 (by decide +kernel))
    subst e9
    exact hQ g9 g7 g3 w' F.bel (hx (hall 10 (by decide +kernel))) x7 x3 _ _ _ _ _ _ _ _ _
end Go.Proofs.YtkjefigebdbkaaaDoor.Y
