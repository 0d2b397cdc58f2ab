/-
  What the program's functions of layer 11 return for every procedure: check, Check: contracts.
  What the program's function Check of layer 12 returns: its contract.
-/
import Derived.Test.YtkjefigebdbkaaaDoorM16
import Derived.Test.YtkjefigebdbkaaaDoorM13
import Derived.Test.YtkjefigebdbkaaaDoorM18
import Derived.Test.YtkjefigebdbkaaaDoorM11
namespace Go.Proofs.YtkjefigebdbkaaaDoor.Y
open Go.RowKit
open L (Str isName prt size_len below_2 below_box ret_bool ret_int eql_eq bytes_eq)
open A (Ex St Pm Pr V arity vE vEs absent exV exO Bx RowK Own1 exV_mk exO_mk okE cE PmsAt StrsAt pmV PrIn OkP prV prO names valE GivesN)

set_option maxHeartbeats 8000000 in
set_option maxRecDepth 100000 in
theorem ocheck_all (p : Pr) (a1 a2 : Option Addr) (c1 c2 : Nat) (hok : OkP p) (hc1 : p.params.length ≤ c1) (w : World) (ht : Tb w) (hK : PrIn w p a1 a2) :
    Calls Tryd.prog 25 #[prV p a1 c1 a2 c2] w (GivesC w (chk p)) := by
  have hb := below_box w (prO p a1 c1 a2 c2)
  have hbx := Bx.new w #[.string p.name, .slice a1 p.params.length c1, .slice a2 p.body.length c2] 25
  have HV := Lib.hid (A.UB.ovalidate_any p a1 a2 c1 c2 hok hc1 _ (hK.below hb))
  have hpl := hok.params
  have HC := Lib.hid (fun w' hK => ocontainsB_any p.params a1 c1 (by omega) w' hK)
  have HNM := Lib.hid (fun (h0 : valE p = 0) w' hK => A.onames_any p a1 a2 c1 c2 hok (by have := N.val_cB h0; omega) (by have := (val_body h0).2.2.2.2.1; omega) (fun j h => by have := (val_body h0).2.2.2.1 _ (List.getElem_mem h); omega) w' hK)
  have HQ := Lib.hid (fun (w0 : World) (hT : Tb w0) => olist_any hT p.body hok.body)
  have hbl := hok.bodyLen
  have HB := Lib.hid hb
  have HBX := Lib.hid hbx
  have HK := Lib.hid (hK.below hb)
  have HT := Lib.hid (ht.below hb)
  have HVB := Lib.hid (val_body (p := p))
  have hch : chk p = if valE p ≠ 0 then ([], valE p) else if anyB p then ([], 10) else if rep [] (names p) then ([], 8) else if (run p).2 ≠ 0 then ([], (run p).2) else ((run p).1.decl, 0) := rfl
  obtain ⟨R, hR⟩ : ∃ R, chk p = R := ⟨_, rfl⟩
  rw [hR] at hch ⊢
  have HR := Lib.hid hch
  have hmm := @run_makeMap Tryd.prog
  have HAB : Hid (p.params.any (fun q => decide (q.ty = 3)) = anyB p) := rfl
  obtain ⟨m, hm⟩ : ∃ m, p.params.length = m := ⟨_, rfl⟩
  have HL := Lib.hid hm
  unfold prO at *
  unfold prV at *
  rw [hm] at HV HC HNM HB HBX HK HT hpl ⊢
  clear hok hc1 hK hb hbx ht hm hch hR
  by_cases h0 : valE p = 0
  case neg =>
    have b1 : (valE p != 0) = true := bne_iff_ne.2 h0
    have hr : R = ([], valE p) := by rw [HR.out, if_pos h0]
    have HP : Hid (∀ w', Below w.heap.size w w' → GivesC w R (.returned (.tuple #[.slice none 0 0, .int .i64 (valE p)])) w') := fun w' h => by rw [hr]; exact GivesC.bad h
    clear hr h0
    generalize valE p = x at *
    go_enter Tryd.func25, Tryd.ntmps25
    go_wp2_with fail
    refine HV.out.mono ?_; rintro e' w2 ⟨rfl, hb2⟩
    have HB2 := Lib.hid (below_2 HB.out hb2)
    clear hb2
    go_wp2_with fail
    go_ret2
    exact HP.out _ HB2.out
  have hvb := HVB.out h0
  have hnl := A.names_valid h0
  have hm6 : m ≤ 6 := by have h1 := hvb.2.2.2.2.1; have h2 := HL.out; omega
  have HNM2 := Lib.hid (HNM.out h0)
  clear HNM
  rw [h0] at HV
  have HR0 : Hid (R = if anyB p then ([], 10) else if rep [] (names p) then ([], 8) else if (run p).2 ≠ 0 then ([], (run p).2) else ((run p).1.decl, 0)) := by show _ = _; rw [HR.out, if_neg (fun z => z h0)]
  clear h0 HVB
  go_enter Tryd.func25, Tryd.ntmps25
  go_wp2_with fail
  refine HV.out.mono ?_; rintro e' w2 ⟨rfl, hb2⟩
  have HB2 := Lib.hid hb2
  have hbx2 := HBX.out.below hb2
  have x1 := hbx2.cell 1
  simp at x1
  have HC2 := Lib.hid (HC.out w2 (HK.out.below hb2).params)
  rw [HAB.out] at HC2
  have HBX2 := Lib.hid hbx2
  clear hb2 hbx2
  go_wp2_with fail
  refine HC2.out.mono ?_; rintro e' w3 ⟨rfl, hb3⟩
  have HB3 := Lib.hid (below_2 HB2.out hb3)
  clear hb3 x1
  cases hab : anyB p
  case true =>
    have hr : R = ([], 10) := by rw [HR0.out, if_pos hab]
    have HP : Hid (GivesC w R (.returned (.tuple #[.slice none 0 0, .int .i64 10])) w3) := by rw [hr]; exact GivesC.bad (below_2 HB.out HB3.out)
    clear hr hab
    go_wp2_with fail
    go_ret2
    exact HP.out
  have HR1 : Hid (R = if rep [] (names p) then ([], 8) else if (run p).2 ≠ 0 then ([], (run p).2) else ((run p).1.decl, 0)) := by show _ = _; rw [HR0.out, if_neg (by rw [hab]; decide)]
  have hbx3 := HBX.out.below HB3.out
  have x0 := hbx3.cell 0
  have x1 := hbx3.cell 1
  have x2 := hbx3.cell 2
  simp at x0 x1 x2
  have HN3 := Lib.hid (HNM2.out w3 (HK.out.below HB3.out))
  clear hab hbx3 HC2
  go_wp2_with fail
  refine HN3.out.mono ?_; rintro e' w4 ⟨pn, qn, rfl, hqn, hsn, hb4⟩
  have HRP := Lib.hid (orepeats_any (names p) pn qn (by omega) (fun x hx => by have := hvb.2.2.2.2.2 x hx; omega) w4 hsn)
  have HB4 := Lib.hid (below_2 HB3.out hb4)
  generalize (names p).length = nn at *
  generalize rep [] (names p) = rp at *
  clear hb4 x0 x1 x2 hsn hqn
  go_wp2_with fail
  refine HRP.out.mono ?_; rintro e' w5 ⟨rfl, hb5⟩
  have HB5 := Lib.hid (below_2 HB4.out hb5)
  clear hb5
  cases rp
  case true =>
    have hr : R = ([], 8) := by rw [HR1.out, if_pos rfl]
    have HP : Hid (GivesC w R (.returned (.tuple #[.slice none 0 0, .int .i64 8])) w5) := by rw [hr]; exact GivesC.bad (below_2 HB.out HB5.out)
    clear hr
    go_wp2_with fail
    go_ret2
    exact HP.out
  have HR2 : Hid (R = if (run p).2 ≠ 0 then ([], (run p).2) else ((run p).1.decl, 0)) := by show _ = _; rw [HR1.out, if_neg (by decide)]
  have HK0 := Lib.hid (CK.new w5)
  have hbx5 := HBX.out.below HB5.out
  have hKb := (HK.out.below HB5.out)
  have HBX5 := Lib.hid hbx5
  have HKb := Lib.hid hKb
  have HT5 := Lib.hid (HT.out.below HB5.out)
  have x1 := hbx5.cell 1
  simp at x1
  have x1a := ((below_box w5 (.map #[] 0)).cell (block_lt_of_cell x1)).trans x1
  have x1b := ((below_box _ (.map #[] 0)).cell (block_lt_of_cell x1a)).trans x1a
  have x1c := ((below_box _ (.cells #[.map (some w5.heap.size), .map (some (w5.heap.size + 1)), .slice none 0 0] 96)).cell (block_lt_of_cell x1b)).trans x1b
  have HX0 : Hid (cx0.decls (p.params.drop 0) = cx0.decls p.params) := rfl
  clear hbx5 hKb
  go_wp2_with fail
  go_loopw [30] (fun s30 wr => ∃ (k : Nat) (ck : Cx) (nk : Nat), k ≤ m ∧ s30 = .int .i64 k ∧ Hid (ck.decls (p.params.drop k) = cx0.decls p.params) ∧ Hid (nk ≤ k) ∧ Hid (CK wr w5.heap.size (fun _ => False) (w5.heap.size + 1 + 1) w5.heap.size (w5.heap.size + 1) nk ck) ∧ Hid (Below w5.heap.size w5 wr)) (fun s30 _ => m - (intOf s30).toNat)
  case atStart => exact ⟨0, cx0, 0, Nat.zero_le _, rfl, HX0, Nat.le_refl _, HK0, below_2 (below_2 (below_box _ _) (below_box _ _)) (below_box _ _)⟩
  case round =>
    obtain ⟨k, ck, nk, hk, rfl, HX, HN, HCk, HBr⟩ := hrel
    by_cases hlt : k < m
    · have hlx : k < p.params.length := by rw [HL.out]; exact hlt
      obtain ⟨b3, i3, rfl, hcc⟩ := (HKb.out.params.below HBr.out).open hlx
      obtain ⟨f0, f1⟩ := hcc k hlx
      have hx := HX.out
      rw [decls_drop _ hlx] at hx
      have hqt := hvb.2.2.1 _ (List.getElem_mem hlx)
      have hqn := hvb.2.2.2.1 _ (List.getElem_mem hlx)
      generalize p.params[k] = q at f0 f1 hx hqt hqn
      have HX2 := Lib.hid hx
      have hb0 := below_box wr (.cells #[.string q.name, .int .i64 q.ty] 51)
      have HD := Lib.hid (odeclare_any (HCk.out.below hb0) q.name (by omega) q.ty (by omega) (by have := HN.out; omega))
      have HB0 := Lib.hid (below_2 HBr.out hb0)
      clear hcc hx hb0 x1 x1a x1b x1c
      go_wp2_with fail
      refine HD.out.mono ?_; rintro e' w7 ⟨rfl, hc7, hk7⟩
      have HC7 := Lib.hid hc7
      have HB7 : Hid (Below w5.heap.size w5 w7) := HB0.out.trans hk7.below
      clear hc7 hk7
      go_wp2_with fail
      go_roundw
      case rel => exact ⟨k + 1, ck.declare q.name q.ty, nk + 1, by omega, by go_num, HX2.out, by have := HN.out; show _ ≤ _; omega, HC7.out, HB7.out⟩
      case measure => simp [intOf]; omega
    · have hX := HX.out
      rw [List.drop_of_length_le (by rw [HL.out]; omega), Cx.decls] at hX
      subst hX
      have hbx6 := HBX5.out.below HBr.out
      have x2 := hbx6.cell 2
      simp at x2
      have HLS := Lib.hid (HQ.out w5 HT5.out a2 c2 _ _ _ nk _ _ wr hvb.1 hbl HBr.out HKb.out.body HCk.out (by have := hvb.2.1; have := HN.out; omega))
      have hrun : run p = lst (ckB (cx0.decls p.params) p.body) p.body := rfl
      rw [hrun] at HR2
      generalize lst (ckB (cx0.decls p.params) p.body) p.body = r at HLS HR2
      clear hbx6 x1 x1a x1b x1c hrun
      go_wp2_with fail
      refine HLS.out.mono ?_; rintro e' w7 ⟨rfl, hc7, hk7⟩
      have HB7 : Hid (Below w.heap.size w w7) := below_2 HB.out (below_2 HB5.out (HBr.out.trans hk7.below))
      by_cases hz : r.2 = 0
      · have b1 : (r.2 != 0) = false := by rw [hz]; rfl
        have hr : R = (r.1.decl, 0) := by rw [HR2.out, if_neg (fun z => z hz)]
        obtain ⟨p9, q9, hk9⟩ := hc7
        have g2 := hk9.box.cell 2
        simp only [List.getElem?_toArray, List.getElem?_cons_succ, List.getElem?_cons_zero] at g2
        have HP : Hid (GivesC w R (.returned (.tuple #[.slice p9 r.1.decl.length q9, .int .i64 0])) w7) := by
          rw [hr]
          obtain ⟨_, _, hsh, hle⟩ := hk9.row.shape
          have hq : r.1.decl.length ≤ q9 := by injection hsh with h1 h2 h3; omega
          exact ⟨p9, q9, rfl, hq, own_pms hk9.row, HB7.out⟩
        clear hr hz hk9 hk7
        go_wp2_with fail
        go_ret2
        exact HP.out
      · have b1 : (r.2 != 0) = true := bne_iff_ne.2 hz
        have hr : R = ([], r.2) := by rw [HR2.out, if_pos hz]
        have HP : Hid (GivesC w R (.returned (.tuple #[.slice none 0 0, .int .i64 r.2])) w7) := by rw [hr]; exact GivesC.bad HB7.out
        clear hr hz hc7 hk7
        go_wp2_with fail
        go_ret2
        exact HP.out
set_option maxHeartbeats 4000000 in
set_option maxRecDepth 100000 in
theorem oCheck_all (p : Pr) (a1 a2 : Option Addr) (c1 c2 : Nat) (hok : OkP p) (hc1 : p.params.length ≤ c1) (w : World) (ht : Tb w) (hK : PrIn w p a1 a2) :
    Calls Tryd.prog 23 #[prV p a1 c1 a2 c2] w fun e' w' => e' = .returned (.int .i64 (chk p).2) ∧ Below w.heap.size w w' := by
  have hb := below_box w (prO p a1 c1 a2 c2)
  have HC := Lib.hid (ocheck_all p a1 a2 c1 c2 hok hc1 _ (ht.below hb) (hK.below hb))
  have HB := Lib.hid hb
  generalize chk p = R at *
  obtain ⟨r1, r2⟩ := R
  unfold prO at *
  unfold prV at *
  clear hok hc1 hK hb ht
  go_enter Tryd.func23, Tryd.ntmps23
  go_wp2_with fail
  refine HC.out.mono ?_; rintro e' w2 ⟨p9, q9, rfl, hle, hp, hb2⟩
  have HB2 := Lib.hid (below_2 HB.out hb2)
  clear hle hp hb2
  go_wp2_with fail
  go_ret
  exact ⟨rfl, HB2.out⟩
end Go.Proofs.YtkjefigebdbkaaaDoor.Y
namespace Go.Proofs.YtkjefigebdbkaaaDoor.N
open Go.RowKit
open A (Ex Pr exprs exV exO okE prV prO OkP PrIn GivesXs)
open L (below_2 below_box ret_bool ret_int)

/-- Check -/
def checkN (p : Pr) : Int := if (Y.chk p).2 ≠ 0 then (Y.chk p).2 else if (firstN p).2.2 = true then 12 else 0
theorem oFirst_all (p : Pr) (a1 a2 : Option Addr) (c1 c2 : Nat) (hok : OkP p) (hc1 : p.params.length ≤ c1) (w : World) (hK : PrIn w p a1 a2) :
    Calls Tryd.prog 44 #[prV p a1 c1 a2 c2] w fun e' w' => e' = .returned (.tuple #[.int .i64 (firstN p).1, .int .i64 (firstN p).2.1, .bool (firstN p).2.2]) ∧ Below w.heap.size w w' :=
  oFirst_any p a1 a2 c1 c2 (fun w' h => A.UB.ovalidate_any p a1 a2 c1 c2 hok hc1 w' h) (fun h0 w' h => A.oexprs_any p a1 a2 c1 c2 hok (by have := val_cB h0; omega) w' h) (fun _ e he => (A.exprs_ve hok.body e he).1) w hK
set_option maxHeartbeats 4000000 in
set_option maxRecDepth 100000 in
theorem oCheck_any (p : Pr) (a1 a2 : Option Addr) (c1 c2 : Nat) (hok : OkP p) (hc1 : p.params.length ≤ c1) (w : World) (ht : Y.Tb w) (hK : PrIn w p a1 a2) :
    Calls Tryd.prog 17 #[prV p a1 c1 a2 c2] w fun e' w' => e' = .returned (.int .i64 (checkN p)) ∧ Below w.heap.size w w' := by
  have hb := below_box w (prO p a1 c1 a2 c2)
  have hbx := A.Bx.new w #[.string p.name, .slice a1 p.params.length c1, .slice a2 p.body.length c2] 25
  have HC := Lib.hid (Y.oCheck_all p a1 a2 c1 c2 hok hc1 _ (ht.below hb) (hK.below hb))
  have HF := Lib.hid (fun w' h => oFirst_all p a1 a2 c1 c2 hok hc1 w' h)
  have HK := Lib.hid (hK.below hb)
  have HB := Lib.hid hb
  have HX := Lib.hid hbx
  have hch : checkN p = if (Y.chk p).2 ≠ 0 then (Y.chk p).2 else if (firstN p).2.2 = true then 12 else 0 := rfl
  obtain ⟨R, hR⟩ : ∃ R, checkN p = R := ⟨_, rfl⟩
  rw [hR] at hch ⊢
  have HR := Lib.hid hch
  generalize (Y.chk p).2 = x at *
  generalize firstN p = y at *
  obtain ⟨y1, y2, y3⟩ := y
  unfold prO at *
  unfold prV at *
  clear hok hc1 hK hb hbx ht hch hR
  by_cases h0 : x = 0
  case neg =>
    have b1 : (x != 0) = true := bne_iff_ne.2 h0
    have HV : Hid (R = x) := by show _ = _; rw [HR.out, if_pos h0]
    clear h0
    go_enter Tryd.func17, Tryd.ntmps17
    go_wp2_with fail
    refine HC.out.mono ?_; rintro e' w2 ⟨rfl, hb2⟩
    have HB2 := Lib.hid (below_2 HB.out hb2)
    clear hb2
    go_wp2_with fail
    go_ret
    exact ⟨ret_int HV.out.symm, HB2.out⟩
  subst h0
  have HV : Hid (R = if y3 = true then 12 else 0) := by show _ = _; rw [HR.out, if_neg (fun z => z rfl)]
  go_enter Tryd.func17, Tryd.ntmps17
  go_wp2_with fail
  refine HC.out.mono ?_; rintro e' w2 ⟨rfl, hb2⟩
  have HB2 := Lib.hid (below_2 HB.out hb2)
  have HF2 := Lib.hid (HF.out _ (HK.out.below hb2))
  have x0 := (HX.out.below hb2).cell 0
  have x1 := (HX.out.below hb2).cell 1
  have x2 := (HX.out.below hb2).cell 2
  simp at x0 x1 x2
  clear hb2 HC
  go_wp2_with fail
  refine HF2.out.mono ?_; rintro e' w3 ⟨rfl, hb3⟩
  have HB3 := Lib.hid (below_2 HB2.out hb3)
  clear hb3 x0 x1 x2
  cases y3 with
  | true =>
    have HV2 : Hid (R = 12) := HV.out
    go_wp2_with fail
    go_ret
    exact ⟨ret_int HV2.out.symm, HB3.out⟩
  | false =>
    have HV2 : Hid (R = 0) := HV.out
    go_wp2_with fail
    go_ret
    exact ⟨ret_int HV2.out.symm, HB3.out⟩
end Go.Proofs.YtkjefigebdbkaaaDoor.N
