/-
  Proc of layer 9: a contract.
-/
import Derived.Test.YteglaeopaocilaaGreatDoorM19
namespace Go.Proofs.YteglaeopaocilaaGreatDoor.P
open Go.RowKit
open L (Str isName prt size_len below_2 below_box ret_bool ret_int ret_string bytes_eq append_list Own8)
open A

theorem progT_one (p : Pr) : progT [p] = procT p := by
  unfold progT procT
  by_cases h : valE p = 0
  · rw [if_pos h, if_pos (by simp [h])]; simp [txL, txLs]
  · rw [if_neg h, if_neg (by simp [h])]
theorem okL_one {p : Pr} (h : OkP p) : OkL [p] := ⟨by show 1 ≤ _; decide, fun j hj => by
  have : j = 0 := by simp only [List.length_cons, List.length_nil] at hj; omega
  subst this; exact h⟩
theorem prs_one {w : World} {p : Pr} {a1 a2 : Option Addr} {c1 c2 : Nat} (hc1 : p.params.length ≤ c1) (hK : PrIn w p a1 a2) : Prs (w.alloc (.cells #[.string p.name, .slice a1 p.params.length c1, .slice a2 p.body.length c2] 25)) (some ⟨w.heap.size, 0, none⟩) [p] := by
  have hb := below_box w (.cells #[.string p.name, .slice a1 p.params.length c1, .slice a2 p.body.length c2] 25)
  have hn := BoxP.new w p a1 c1 a2 c2
  refine Or.inr ⟨_, 0, rfl, fun j hj => ?_⟩
  have : j = 0 := by simp only [List.length_cons, List.length_nil] at hj; omega
  subst this
  exact ⟨a1, c1, a2, c2, hn.k0, hn.k1, hn.k2, hc1, hK.below hb⟩
set_option maxHeartbeats 2000000 in
set_option maxRecDepth 100000 in
theorem oproct_any (p : Pr) (hok : OkP p) (a1 a2 : Option Addr) (c1 c2 : Nat) (hc1 : p.params.length ≤ c1) (w : World) (ht : TabT w) (hK : PrIn w p a1 a2) :
    Calls Tryz.prog 12 #[prV p a1 c1 a2 c2] w fun e' w' => e' = .returned (.string (ba (procT p))) ∧ Below w.heap.size w w' := by
  have hb := below_box w (.cells #[.string p.name, .slice a1 p.params.length c1, .slice a2 p.body.length c2] 25)
  have hb2 := below_2 hb (below_box _ (.cells #[.string p.name, .slice a1 p.params.length c1, .slice a2 p.body.length c2] 25))
  have HC := Lib.hid (oprogram_any [p] _ 1 (okL_one hok) _ (ht.below hb2) (prs_one (c2 := c2) hc1 (hK.below hb)))
  have HB := Lib.hid hb2
  have e1 : (w.alloc (.cells #[.string p.name, .slice a1 p.params.length c1, .slice a2 p.body.length c2] 25)).heap.size = w.heap.size + 1 := by simp
  rw [progT_one, e1] at HC
  simp only [List.length_cons, List.length_nil, Nat.zero_add] at HC
  unfold prV
  clear hb hb2 hK ht hok e1
  go_enter Tryz.func12, Tryz.ntmps12
  go_wp2_with fail
  refine HC.out.mono ?_; rintro e w2 ⟨rfl, hb3⟩
  have HB3 := Lib.hid (below_2 HB.out hb3)
  clear hb3
  go_wp2_with fail
  go_ret
  exact ⟨rfl, HB3.out⟩
end Go.Proofs.YteglaeopaocilaaGreatDoor.P
