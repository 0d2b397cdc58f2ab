/-
  The laws of layer 14: the tainted variables are closed under assignment.
-/
import Derived.Test.YtnelpgeiioflmaaGreatDoorM25
import Derived.Test.YtnelpgeiioflmaaGreatDoorSFLC
namespace Go.Proofs.YtnelpgeiioflmaaGreatDoor.F
open Go.RowKit
open L (Str isName prt size_len below_2 below_box ret_bool ret_int eql_eq bytes_eq)
open A (Ex St Pm Pr Bx PmsAt StrsAt PrIn OkP prV prO names cB SmP small GivesN GivesV walk exprs)
open Y (chk Tb)
open P (On off_of on_set wp_region_inv IS)

theorem all_in {l m : List ByteArray} (h : ∀ x ∈ l, x ∈ m) : l.all (mem m) = true := List.all_eq_true.2 fun x hx => mem_iff.2 (h x hx)
set_option maxHeartbeats 8000000 in
set_option maxRecDepth 100000 in
theorem lawClosed_core (hwk : Wk) (p : Pr) (a1 a2 : Option Addr) (c1 c2 : Nat) (hok : OkP p) (hc1 : p.params.length ≤ c1) (w : World) (ht : Tb w) (hK : PrIn w p a1 a2) :
    Calls Tryz.prog 5 #[prV p a1 c1 a2 c2] w fun e' w' => e' = .returned (.bool true) ∧ Below w.heap.size w w' := by
  have hb := below_box w (prO p a1 c1 a2 c2)
  have hbx := Bx.new w #[.string p.name, .slice a1 p.params.length c1, .slice a2 p.body.length c2] 25
  have HS := Lib.hid (A.rsmall_any p a1 c1 a2 c2 600 (by omega) hok _ (hK.below hb))
  have HW := Lib.hid hwk
  have HT := Lib.hid (ht.below hb)
  have HX := Lib.hid hbx
  have HK := Lib.hid (hK.below hb)
  have HB0 := Lib.hid hb
  have HSm : Hid (small p 600 = true → Sm p a1 a2 c1 c2) := fun h => sm_of (m := 600) (by omega) hok hc1 (A.small_smp h)
  have HCl : Hid (small p 600 = true → (chk p).2 = 0 → ∀ w' q qc, PrIn w' p a1 a2 → StrsAt w' q (taint p) → Calls Tryz.prog 21 #[.slice a2 p.body.length c2, .slice q (taint p).length qc, .bool false] w' fun e' w'' => e' = .returned (.bool true) ∧ Below w'.heap.size w' w'') := fun hsm h0 w' q qc hk hs => by
    have := lclosed_any (ns := taint p) (by have := (HSm.out hsm).len; omega) p.body a2 c2 q qc false w' hok.body hok.bodyLen hs hk.body
    rw [closed_main h0] at this
    exact this
  have HWi : Hid (small p 600 = true → ∀ w' q qc r rc, StrsAt w' q (taint p) → StrsAt w' r (names p) → Calls Tryz.prog 22 #[.slice q (taint p).length qc, .slice r (names p).length rc] w' fun e' w'' => e' = .returned (.bool true) ∧ w'' = w') := fun hsm w' q qc r rc h1 h2 => by
    have hl := (HSm.out hsm).len
    have := lwithin_any (taint p) (names p) q r qc rc (by omega) (by omega) w' h1 h2
    rw [all_in taint_in] at this
    exact this
  unfold prV at HS ⊢
  unfold prO at *
  generalize small p 600 = sm at *
  clear hb hbx hok hc1 ht hK hwk
  have x0 := HX.out.cell 0
  have x1 := HX.out.cell 1
  have x2 := HX.out.cell 2
  simp only [List.getElem?_toArray, List.getElem?_cons_zero, List.getElem?_cons_succ] at x0 x1 x2
  cases sm with
  | false =>
    go_enter Tryz.func5, Tryz.ntmps5
    go_wp2_with fail
    refine HS.out.mono ?_; rintro e' w2 ⟨rfl, hb2⟩
    have HB2 := Lib.hid (below_2 HB0.out hb2)
    have HT2 := Lib.hid (HT.out.below hb2)
    clear hb2 x0 x1 x2
    go_wp2_with fail
    refine (HW.out _ HT2.out).mono ?_; rintro e' w8 ⟨rfl, hb8⟩
    have HB8 := Lib.hid (below_2 HB2.out hb8)
    clear hb8
    go_wp2_with fail
    go_ret
    exact ⟨rfl, HB8.out⟩
  | true =>
  obtain ⟨oT, oK, oC, oI, ck, nm, rT, wk, hln⟩ := HSm.out (by trivial)
  have HC := Lib.hid ck
  have HOT := Lib.hid oT
  have HNM := Lib.hid nm
  have HCl2 := Lib.hid (HCl.out (by trivial))
  have HWi2 := Lib.hid (HWi.out (by trivial))
  clear oT oK oC oI ck nm rT wk HCl HWi HSm
  unfold prV at HC HOT HNM
  obtain ⟨R, hR⟩ : ∃ R, taint p = R := ⟨_, rfl⟩
  rw [hR] at HOT HCl2 HWi2 hln
  clear hR
  generalize names p = ns at *
  generalize (chk p).2 = z at *
  go_enter Tryz.func5, Tryz.ntmps5
  go_wp2_with fail
  refine HS.out.mono ?_; rintro e' w2 ⟨rfl, hb2⟩
  have HB2 := Lib.hid hb2
  have hx2 := HX.out.below hb2
  have y0 := hx2.cell 0
  have y1 := hx2.cell 1
  have y2 := hx2.cell 2
  simp only [List.getElem?_toArray, List.getElem?_cons_zero, List.getElem?_cons_succ] at y0 y1 y2
  have HC2 := Lib.hid (HC.out w2 (HT.out.below hb2) (HK.out.below hb2))
  clear hb2 hx2 x0 x1 x2
  by_cases hz : z = 0
  case neg =>
    have b1 : (z != 0) = true := bne_iff_ne.2 hz
    clear hz
    go_wp2_with fail
    refine HC2.out.mono ?_; rintro e' w3 ⟨rfl, hb3⟩
    have HB3 := Lib.hid (below_2 HB2.out hb3)
    clear hb3 y0 y1 y2
    go_wp2_with fail
    refine (HW.out _ (HT.out.below HB3.out)).mono ?_; rintro e' w8 ⟨rfl, hb8⟩
    have HB8 := Lib.hid (below_2 (below_2 HB0.out HB3.out) hb8)
    clear hb8
    go_wp2_with fail
    go_ret
    exact ⟨rfl, HB8.out⟩
  subst hz
  have HCl3 := Lib.hid (HCl2.out (by trivial))
  clear HCl2
  go_wp2_with fail
  refine HC2.out.mono ?_; rintro e' w3 ⟨rfl, hb3⟩
  have HB3 := Lib.hid (below_2 HB2.out hb3)
  have hx3 := HX.out.below (below_2 HB2.out hb3)
  have u0 := hx3.cell 0
  have u1 := hx3.cell 1
  have u2 := hx3.cell 2
  simp only [List.getElem?_toArray, List.getElem?_cons_zero, List.getElem?_cons_succ] at u0 u1 u2
  have HT3 := Lib.hid (HOT.out w3 (HT.out.below HB3.out) (HK.out.below HB3.out))
  clear hb3 hx3 y0 y1 y2
  go_wp2_with fail
  refine HT3.out.mono ?_; rintro e' w4 ⟨pt, qt, rfl, hqt, hst, hb4⟩
  have HB4 := Lib.hid (below_2 HB3.out hb4)
  have HST := Lib.hid hst
  have hx4 := HX.out.below (below_2 HB3.out hb4)
  have v0 := hx4.cell 0
  have v1 := hx4.cell 1
  have v2 := hx4.cell 2
  simp only [List.getElem?_toArray, List.getElem?_cons_zero, List.getElem?_cons_succ] at v0 v1 v2
  have HC4 := Lib.hid (HCl3.out w4 pt qt (HK.out.below HB4.out) hst)
  clear hqt hst hb4 hx4 u0 u1 u2
  go_wp2_with fail
  refine HC4.out.mono ?_; rintro e' w5 ⟨rfl, hb5⟩
  have HB5 := Lib.hid (below_2 HB4.out hb5)
  have HS5 := Lib.hid (HST.out.below hb5)
  have hx5 := HX.out.below (below_2 HB4.out hb5)
  have s0 := hx5.cell 0
  have s1 := hx5.cell 1
  have s2 := hx5.cell 2
  simp only [List.getElem?_toArray, List.getElem?_cons_zero, List.getElem?_cons_succ] at s0 s1 s2
  have HN5 := Lib.hid (HNM.out w5 (HT.out.below HB5.out) (HK.out.below HB5.out))
  clear hb5 hx5 v0 v1 v2
  go_wp2_with fail
  refine HN5.out.mono ?_; rintro e' w6 ⟨pn, qn, rfl, hqn, hsn, hb6⟩
  have HB6 := Lib.hid (below_2 HB5.out hb6)
  have HI6 := Lib.hid (HWi2.out w6 pt qt pn qn (HS5.out.below hb6) hsn)
  clear hqn hsn hb6 s0 s1 s2
  go_wp2_with fail
  refine HI6.out.mono ?_; rintro e' w7 ⟨rfl, rfl⟩
  go_wp2_with fail
  refine (HW.out _ (HT.out.below HB6.out)).mono ?_; rintro e' w8 ⟨rfl, hb8⟩
  have HB8 := Lib.hid (below_2 (below_2 HB0.out HB6.out) hb8)
  clear hb8
  go_wp2_with fail
  go_ret
  exact ⟨rfl, HB8.out⟩
end Go.Proofs.YtnelpgeiioflmaaGreatDoor.F
