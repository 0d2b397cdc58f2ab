/-
  For every input ValueDistinct returns true and leaves its arguments as they were.
  Conditions: the tables of Go's library that the row lists hold what their own initialisers lay when the call begins; the card ties that to the program's text, in a pruned copy of the project. No condition on the arguments.
-/
import Derived.Test.YtcedndjpdgpdgaaDoorBase
import Derived.Test.YtcedndjpdgpdgaaDoorVBase
import Derived.Test.YtcedndjpdgpdgaaDoorVOwn
namespace Go.Proofs.YtcedndjpdgpdgaaDoor
open Go.ChangeShapes Go.WideShapes Go.ChangeAt Go.WideMaps Go.WideElems Go.RowKit

set_option maxRecDepth 100000 in
theorem valueDistinct_lifted (os : Os) (started : os.Started) (H : Type) (enc : TypeId × Value → H) :
    ReturnsInHanded {} Tryd.checked os 10 .any (fun w args => (Rows.valueDistinctSpec.pre enc Tryd.prog Tryd.f10 [] false w args ∧ laidMetH Tryd.prog laidAll w) ∧ sizedMet enc Tryd.prog Tryd.f10 (OpenSpec.ofChange Rows.valueDistinctSpec) false w args)
      (Rows.valueDistinctSpec.post enc Tryd.prog Tryd.f10 false true false false) := by
  refine returnsInHanded_of_change_and (C := Tryd.checked) (X := fun w _ => laidMetH Tryd.prog laidAll w) (fun _ _ _ hh h => h.of_heap hh) own started (by kernel_rfl) Tryd.func10
    (ChangeSpec.witness_shaped (enc := enc) (C := Tryd.checked) (os := os) (X := fun w _ => laidMetH Tryd.prog laidAll w) false (World.doorLaid Tryd.prog 400 os) #[.agg #[.int .i64 0, .int .i64 0, .string ⟨#[]⟩], .agg #[.int .i64 0, .int .i64 0, .string ⟨#[]⟩]] 8 rfl (World.shaped_of_RefB (by kernel_rfl) (by kernel_rfl)) (by kernel_rfl) (by kernel_rfl) (by kernel_rfl) (door_met os _)) ?_
  intro W base args ds gs before hval0 hW _ _ hL _
  have hval : ∀ (j : Nat) t v, Tryd.f10.params[j]? = some t → args[j]? = some v → Value.okWide Tryd.prog W .any base t v := hval0
  have hW' := hW
  obtain ⟨p, q, hA0, hV, rfl, hfz, hnd⟩ := hW
  have hA : DataW.TrodAll enc Tryd.prog W 0 (fun _ => true) true Tryd.f10.params.toList args.toList ds p := hA0
  rw [Tryd.params10] at hA hval
  obtain ⟨v0, vs0, d0, ds0, p0, q0, hargs, rfl, rfl, h0, r0⟩ := trodAll_cons hA
  obtain ⟨v1, vs1, d1, ds1, p1, q1, rfl, rfl, rfl, h1, r1⟩ := trodAll_cons r0
  obtain ⟨rfl, rfl, rfl⟩ := trodAll_nil r1
  obtain rfl : args = #[v0, v1] := by cases args; simp_all
  obtain ⟨rfl, rfl⟩ := trodVars_none hV
  obtain ⟨k0, n0, a0, rfl, rfl, rfl, wk0, wn0, w0⟩ := open_val (hval 0 23 v0 rfl rfl) h0
  obtain ⟨k1, n1, a1, rfl, rfl, rfl, wk1, wn1, w1⟩ := open_val (hval 1 23 v1 rfl rfl) h1
  clear hA0 hval0
  simp only [List.append_nil] at hW'
  have ht := tab_of_laid hL
  obtain ⟨l0, u0⟩ := bounds_i64 wn0
  have z0 : a0.size ≤ 9223372036854775807 := by unfold maxLen at w0; omega
  obtain ⟨l1, u1⟩ := bounds_i64 wn1
  have z1 : a1.size ≤ 9223372036854775807 := by unfold maxLen at w1; omega
  refine (V.distinct_walk V.own_holds k0 n0 l0 u0 a0 z0 k1 n1 l1 u1 a1 z1 W ht).mono fun e W' ⟨he, hg⟩ => ?_
  subst he
  exact ⟨_, rfl, _, _, _, [], [], [], hW', trodAll_cons_mk (shut_bool Tryd.underlying4 _) trodAll_mk0, (trodAll_cons_mk (shut_val wk0 wn0 w0) (trodAll_cons_mk (shut_val wk1 wn1 w1) trodAll_mk0)), rfl, hg.frame _, fun h => by cases h⟩

theorem valueDistinct_row_holds : Rows.ValueDistinctSaid :=
  OpenClaim.holds_of_wide 10 Tryd.f10 rfl rfl rfl rfl rfl rfl rfl ⟨rfl, rfl, rfl, rfl, rfl⟩ rfl rfl rfl rfl rfl (by kernel_rfl) Tryd.func10 (by kernel_rfl)
    (of_decide_eq_true (by kernel_rfl)) (by unfold Func.isWrapper; first | (rw [if_pos (by decide +kernel)]; kernel_rfl) | (rw [if_neg (by decide +kernel)]; exact ⟨rfl, rfl⟩))
    (fun os started H enc _ => valueDistinct_lifted os started H enc)

theorem valueDistinct_card_holds : Rows.ValueDistinctCardSaid :=
  Claim7.holds_tied_plain_at .later [] [.data, .data, .data] true (true, "25d4e18f4c836e5c45abec4f08d0ff7e02f239b210ea482763b9ca4baeb80202") false
    valueDistinct_row_holds (fun _ h => by cases h) (by kernel_rfl) (fun _ h => by cases h) valueDistinct_row_tie rfl ⟨rfl, rfl⟩ (by kernel_rfl) rfl
    (fun f fn hf hfn => by
      obtain rfl : f = 10 := Option.some.inj ((show Tryd.prog.funcNamed "clockwork/clockworklaw05.ValueDistinct" = some 10 by kernel_rfl).symm.trans hf) |>.symm
      obtain rfl : fn = Tryd.f10 := (Option.some.inj (Tryd.func10.symm.trans hfn)).symm
      exact ⟨by kernel_rfl, fun j t ht => by
        rw [Tryd.params10] at ht
        have hm : t ∈ [23, 23] := by simpa using Array.mem_of_getElem? ht
        have hall : ([23, 23].all fun u => !Tryd.prog.wantsStandIn u) = true := by kernel_rfl
        exact (show Tryd.prog.wantsStandIn t = false by simpa using List.all_eq_true.1 hall t hm)⟩)
    (by kernel_rfl)
#print axioms valueDistinct_card_holds
end Go.Proofs.YtcedndjpdgpdgaaDoor
