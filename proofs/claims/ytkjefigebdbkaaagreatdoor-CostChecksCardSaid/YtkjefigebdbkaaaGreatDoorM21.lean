/-
  What the program's functions of layer 11 return for every procedure: check, Check: contracts.
  What the program's function Check of layer 12 returns: its contract.
  The reference of layer 12: the operators of an expression's nodes: contract.
  The reference of layer 12: Pure and Reads: contracts.
  The reference of layer 12: First: a contract.
-/
import Derived.Test.YtkjefigebdbkaaaGreatDoorM18
import Derived.Test.YtkjefigebdbkaaaGreatDoorM15
import Derived.Test.YtkjefigebdbkaaaGreatDoorM20
import Derived.Test.YtkjefigebdbkaaaGreatDoorM11
import Derived.Test.YtkjefigebdbkaaaGreatDoorSNPlain
import Derived.Test.YtkjefigebdbkaaaGreatDoorM07
import Derived.Deep.AppendLies
import Derived.Laws.OwnMore
import Derived.Test.YtkjefigebdbkaaaGreatDoorM13
namespace Go.Proofs.YtkjefigebdbkaaaGreatDoor.Y
open Go.RowKit
open L (Str isName prt size_len below_2 below_box ret_bool ret_int eql_eq bytes_eq)
open A (Ex St Pm Pr V arity vE vEs absent exV exO Bx RowK Own1 exV_mk exO_mk okE cE PmsAt StrsAt pmV PrIn OkP prV prO names valE GivesN)

set_option maxHeartbeats 8000000 in
set_option maxRecDepth 100000 in
theorem ocheck_all (p : Pr) (a1 a2 : Option Addr) (c1 c2 : Nat) (hok : OkP p) (hc1 : p.params.length ≤ c1) (w : World) (ht : Tb w) (hK : PrIn w p a1 a2) :
    Calls Tryz.prog 51 #[prV p a1 c1 a2 c2] w (GivesC w (chk p)) := by
  have hb := below_box w (prO p a1 c1 a2 c2)
  have hbx := Bx.new w #[.string p.name, .slice a1 p.params.length c1, .slice a2 p.body.length c2] 25
  have HV := Lib.hid (A.UB.ovalidate_any p a1 a2 c1 c2 hok hc1 _ (hK.below hb))
  have hpl := hok.params
  have HC := Lib.hid (fun w' hK => ocontainsB_any p.params a1 c1 (by omega) w' hK)
  have HNM := Lib.hid (fun (h0 : valE p = 0) w' hK => A.onames_any p a1 a2 c1 c2 hok (by have := N.val_cB h0; omega) (by have := (val_body h0).2.2.2.2.1; omega) (fun j h => by have := (val_body h0).2.2.2.1 _ (List.getElem_mem h); omega) w' hK)
  have HQ := Lib.hid (fun (w0 : World) (hT : Tb w0) => olist_any hT p.body hok.body)
  have hbl := hok.bodyLen
  have HB := Lib.hid hb
  have HBX := Lib.hid hbx
  have HK := Lib.hid (hK.below hb)
  have HT := Lib.hid (ht.below hb)
  have HVB := Lib.hid (val_body (p := p))
  have hch : chk p = if valE p ≠ 0 then ([], valE p) else if anyB p then ([], 10) else if rep [] (names p) then ([], 8) else if (run p).2 ≠ 0 then ([], (run p).2) else ((run p).1.decl, 0) := rfl
  obtain ⟨R, hR⟩ : ∃ R, chk p = R := ⟨_, rfl⟩
  rw [hR] at hch ⊢
  have HR := Lib.hid hch
  have hmm := @run_makeMap Tryz.prog
  have HAB : Hid (p.params.any (fun q => decide (q.ty = 3)) = anyB p) := rfl
  obtain ⟨m, hm⟩ : ∃ m, p.params.length = m := ⟨_, rfl⟩
  have HL := Lib.hid hm
  unfold prO at *
  unfold prV at *
  rw [hm] at HV HC HNM HB HBX HK HT hpl ⊢
  clear hok hc1 hK hb hbx ht hm hch hR
  by_cases h0 : valE p = 0
  case neg =>
    have b1 : (valE p != 0) = true := bne_iff_ne.2 h0
    have hr : R = ([], valE p) := by rw [HR.out, if_pos h0]
    have HP : Hid (∀ w', Below w.heap.size w w' → GivesC w R (.returned (.tuple #[.slice none 0 0, .int .i64 (valE p)])) w') := fun w' h => by rw [hr]; exact GivesC.bad h
    clear hr h0
    generalize valE p = x at *
    go_enter Tryz.func51, Tryz.ntmps51
    go_wp2_with fail
    refine HV.out.mono ?_; rintro e' w2 ⟨rfl, hb2⟩
    have HB2 := Lib.hid (below_2 HB.out hb2)
    clear hb2
    go_wp2_with fail
    go_ret2
    exact HP.out _ HB2.out
  have hvb := HVB.out h0
  have hnl := A.names_valid h0
  have hm6 : m ≤ 6 := by have h1 := hvb.2.2.2.2.1; have h2 := HL.out; omega
  have HNM2 := Lib.hid (HNM.out h0)
  clear HNM
  rw [h0] at HV
  have HR0 : Hid (R = if anyB p then ([], 10) else if rep [] (names p) then ([], 8) else if (run p).2 ≠ 0 then ([], (run p).2) else ((run p).1.decl, 0)) := by show _ = _; rw [HR.out, if_neg (fun z => z h0)]
  clear h0 HVB
  go_enter Tryz.func51, Tryz.ntmps51
  go_wp2_with fail
  refine HV.out.mono ?_; rintro e' w2 ⟨rfl, hb2⟩
  have HB2 := Lib.hid hb2
  have hbx2 := HBX.out.below hb2
  have x1 := hbx2.cell 1
  simp at x1
  have HC2 := Lib.hid (HC.out w2 (HK.out.below hb2).params)
  rw [HAB.out] at HC2
  have HBX2 := Lib.hid hbx2
  clear hb2 hbx2
  go_wp2_with fail
  refine HC2.out.mono ?_; rintro e' w3 ⟨rfl, hb3⟩
  have HB3 := Lib.hid (below_2 HB2.out hb3)
  clear hb3 x1
  cases hab : anyB p
  case true =>
    have hr : R = ([], 10) := by rw [HR0.out, if_pos hab]
    have HP : Hid (GivesC w R (.returned (.tuple #[.slice none 0 0, .int .i64 10])) w3) := by rw [hr]; exact GivesC.bad (below_2 HB.out HB3.out)
    clear hr hab
    go_wp2_with fail
    go_ret2
    exact HP.out
  have HR1 : Hid (R = if rep [] (names p) then ([], 8) else if (run p).2 ≠ 0 then ([], (run p).2) else ((run p).1.decl, 0)) := by show _ = _; rw [HR0.out, if_neg (by rw [hab]; decide)]
  have hbx3 := HBX.out.below HB3.out
  have x0 := hbx3.cell 0
  have x1 := hbx3.cell 1
  have x2 := hbx3.cell 2
  simp at x0 x1 x2
  have HN3 := Lib.hid (HNM2.out w3 (HK.out.below HB3.out))
  clear hab hbx3 HC2
  go_wp2_with fail
  refine HN3.out.mono ?_; rintro e' w4 ⟨pn, qn, rfl, hqn, hsn, hb4⟩
  have HRP := Lib.hid (orepeats_any (names p) pn qn (by omega) (fun x hx => by have := hvb.2.2.2.2.2 x hx; omega) w4 hsn)
  have HB4 := Lib.hid (below_2 HB3.out hb4)
  generalize (names p).length = nn at *
  generalize rep [] (names p) = rp at *
  clear hb4 x0 x1 x2 hsn hqn
  go_wp2_with fail
  refine HRP.out.mono ?_; rintro e' w5 ⟨rfl, hb5⟩
  have HB5 := Lib.hid (below_2 HB4.out hb5)
  clear hb5
  cases rp
  case true =>
    have hr : R = ([], 8) := by rw [HR1.out, if_pos rfl]
    have HP : Hid (GivesC w R (.returned (.tuple #[.slice none 0 0, .int .i64 8])) w5) := by rw [hr]; exact GivesC.bad (below_2 HB.out HB5.out)
    clear hr
    go_wp2_with fail
    go_ret2
    exact HP.out
  have HR2 : Hid (R = if (run p).2 ≠ 0 then ([], (run p).2) else ((run p).1.decl, 0)) := by show _ = _; rw [HR1.out, if_neg (by decide)]
  have HK0 := Lib.hid (CK.new w5)
  have hbx5 := HBX.out.below HB5.out
  have hKb := (HK.out.below HB5.out)
  have HBX5 := Lib.hid hbx5
  have HKb := Lib.hid hKb
  have HT5 := Lib.hid (HT.out.below HB5.out)
  have x1 := hbx5.cell 1
  simp at x1
  have x1a := ((below_box w5 (.map #[] 0)).cell (block_lt_of_cell x1)).trans x1
  have x1b := ((below_box _ (.map #[] 0)).cell (block_lt_of_cell x1a)).trans x1a
  have x1c := ((below_box _ (.cells #[.map (some w5.heap.size), .map (some (w5.heap.size + 1)), .slice none 0 0] 110)).cell (block_lt_of_cell x1b)).trans x1b
  have HX0 : Hid (cx0.decls (p.params.drop 0) = cx0.decls p.params) := rfl
  clear hbx5 hKb
  go_wp2_with fail
  go_loopw [30] (fun s30 wr => ∃ (k : Nat) (ck : Cx) (nk : Nat), k ≤ m ∧ s30 = .int .i64 k ∧ Hid (ck.decls (p.params.drop k) = cx0.decls p.params) ∧ Hid (nk ≤ k) ∧ Hid (CK wr w5.heap.size (fun _ => False) (w5.heap.size + 1 + 1) w5.heap.size (w5.heap.size + 1) nk ck) ∧ Hid (Below w5.heap.size w5 wr)) (fun s30 _ => m - (intOf s30).toNat)
  case atStart => exact ⟨0, cx0, 0, Nat.zero_le _, rfl, HX0, Nat.le_refl _, HK0, below_2 (below_2 (below_box _ _) (below_box _ _)) (below_box _ _)⟩
  case round =>
    obtain ⟨k, ck, nk, hk, rfl, HX, HN, HCk, HBr⟩ := hrel
    by_cases hlt : k < m
    · have hlx : k < p.params.length := by rw [HL.out]; exact hlt
      obtain ⟨b3, i3, rfl, hcc⟩ := (HKb.out.params.below HBr.out).open hlx
      obtain ⟨f0, f1⟩ := hcc k hlx
      have hx := HX.out
      rw [decls_drop _ hlx] at hx
      have hqt := hvb.2.2.1 _ (List.getElem_mem hlx)
      have hqn := hvb.2.2.2.1 _ (List.getElem_mem hlx)
      generalize p.params[k] = q at f0 f1 hx hqt hqn
      have HX2 := Lib.hid hx
      have hb0 := below_box wr (.cells #[.string q.name, .int .i64 q.ty] 52)
      have HD := Lib.hid (odeclare_any (HCk.out.below hb0) q.name (by omega) q.ty (by omega) (by have := HN.out; omega))
      have HB0 := Lib.hid (below_2 HBr.out hb0)
      clear hcc hx hb0 x1 x1a x1b x1c
      go_wp2_with fail
      refine HD.out.mono ?_; rintro e' w7 ⟨rfl, hc7, hk7⟩
      have HC7 := Lib.hid hc7
      have HB7 : Hid (Below w5.heap.size w5 w7) := HB0.out.trans hk7.below
      clear hc7 hk7
      go_wp2_with fail
      go_roundw
      case rel => exact ⟨k + 1, ck.declare q.name q.ty, nk + 1, by omega, by go_num, HX2.out, by have := HN.out; show _ ≤ _; omega, HC7.out, HB7.out⟩
      case measure => simp [intOf]; omega
    · have hX := HX.out
      rw [List.drop_of_length_le (by rw [HL.out]; omega), Cx.decls] at hX
      subst hX
      have hbx6 := HBX5.out.below HBr.out
      have x2 := hbx6.cell 2
      simp at x2
      have HLS := Lib.hid (HQ.out w5 HT5.out a2 c2 _ _ _ nk _ _ wr hvb.1 hbl HBr.out HKb.out.body HCk.out (by have := hvb.2.1; have := HN.out; omega))
      have hrun : run p = lst (ckB (cx0.decls p.params) p.body) p.body := rfl
      rw [hrun] at HR2
      generalize lst (ckB (cx0.decls p.params) p.body) p.body = r at HLS HR2
      clear hbx6 x1 x1a x1b x1c hrun
      go_wp2_with fail
      refine HLS.out.mono ?_; rintro e' w7 ⟨rfl, hc7, hk7⟩
      have HB7 : Hid (Below w.heap.size w w7) := below_2 HB.out (below_2 HB5.out (HBr.out.trans hk7.below))
      by_cases hz : r.2 = 0
      · have b1 : (r.2 != 0) = false := by rw [hz]; rfl
        have hr : R = (r.1.decl, 0) := by rw [HR2.out, if_neg (fun z => z hz)]
        obtain ⟨p9, q9, hk9⟩ := hc7
        have g2 := hk9.box.cell 2
        simp only [List.getElem?_toArray, List.getElem?_cons_succ, List.getElem?_cons_zero] at g2
        have HP : Hid (GivesC w R (.returned (.tuple #[.slice p9 r.1.decl.length q9, .int .i64 0])) w7) := by
          rw [hr]
          obtain ⟨_, _, hsh, hle⟩ := hk9.row.shape
          have hq : r.1.decl.length ≤ q9 := by injection hsh with h1 h2 h3; omega
          exact ⟨p9, q9, rfl, hq, own_pms hk9.row, HB7.out⟩
        clear hr hz hk9 hk7
        go_wp2_with fail
        go_ret2
        exact HP.out
      · have b1 : (r.2 != 0) = true := bne_iff_ne.2 hz
        have hr : R = ([], r.2) := by rw [HR2.out, if_pos hz]
        have HP : Hid (GivesC w R (.returned (.tuple #[.slice none 0 0, .int .i64 r.2])) w7) := by rw [hr]; exact GivesC.bad HB7.out
        clear hr hz hc7 hk7
        go_wp2_with fail
        go_ret2
        exact HP.out
set_option maxHeartbeats 4000000 in
set_option maxRecDepth 100000 in
theorem oCheck_all (p : Pr) (a1 a2 : Option Addr) (c1 c2 : Nat) (hok : OkP p) (hc1 : p.params.length ≤ c1) (w : World) (ht : Tb w) (hK : PrIn w p a1 a2) :
    Calls Tryz.prog 25 #[prV p a1 c1 a2 c2] w fun e' w' => e' = .returned (.int .i64 (chk p).2) ∧ Below w.heap.size w w' := by
  have hb := below_box w (prO p a1 c1 a2 c2)
  have HC := Lib.hid (ocheck_all p a1 a2 c1 c2 hok hc1 _ (ht.below hb) (hK.below hb))
  have HB := Lib.hid hb
  generalize chk p = R at *
  obtain ⟨r1, r2⟩ := R
  unfold prO at *
  unfold prV at *
  clear hok hc1 hK hb ht
  go_enter Tryz.func25, Tryz.ntmps25
  go_wp2_with fail
  refine HC.out.mono ?_; rintro e' w2 ⟨p9, q9, rfl, hle, hp, hb2⟩
  have HB2 := Lib.hid (below_2 HB.out hb2)
  clear hle hp hb2
  go_wp2_with fail
  go_ret
  exact ⟨rfl, HB2.out⟩
end Go.Proofs.YtkjefigebdbkaaaGreatDoor.Y
namespace Go.Proofs.YtkjefigebdbkaaaGreatDoor.N
open Go.RowKit
open A (Ex Pr exprs exV exO okE prV prO OkP PrIn GivesXs)
open L (below_2 below_box ret_bool ret_int)

def checkN (p : Pr) : Int := if (Y.chk p).2 ≠ 0 then (Y.chk p).2 else if (firstN p).2.2 = true then 12 else 0
theorem oFirst_all (p : Pr) (a1 a2 : Option Addr) (c1 c2 : Nat) (hok : OkP p) (hc1 : p.params.length ≤ c1) (w : World) (hK : PrIn w p a1 a2) :
    Calls Tryz.prog 6 #[prV p a1 c1 a2 c2] w fun e' w' => e' = .returned (.tuple #[.int .i64 (firstN p).1, .int .i64 (firstN p).2.1, .bool (firstN p).2.2]) ∧ Below w.heap.size w w' :=
  oFirst_any p a1 a2 c1 c2 (fun w' h => A.UB.ovalidate_any p a1 a2 c1 c2 hok hc1 w' h) (fun h0 w' h => A.oexprs_any p a1 a2 c1 c2 hok (by have := val_cB h0; omega) w' h) (fun _ e he => (A.exprs_ve hok.body e he).1) w hK
set_option maxHeartbeats 4000000 in
set_option maxRecDepth 100000 in
theorem oCheck_any (p : Pr) (a1 a2 : Option Addr) (c1 c2 : Nat) (hok : OkP p) (hc1 : p.params.length ≤ c1) (w : World) (ht : Y.Tb w) (hK : PrIn w p a1 a2) :
    Calls Tryz.prog 8 #[prV p a1 c1 a2 c2] w fun e' w' => e' = .returned (.int .i64 (checkN p)) ∧ Below w.heap.size w w' := by
  have hb := below_box w (prO p a1 c1 a2 c2)
  have hbx := A.Bx.new w #[.string p.name, .slice a1 p.params.length c1, .slice a2 p.body.length c2] 25
  have HC := Lib.hid (Y.oCheck_all p a1 a2 c1 c2 hok hc1 _ (ht.below hb) (hK.below hb))
  have HF := Lib.hid (fun w' h => oFirst_all p a1 a2 c1 c2 hok hc1 w' h)
  have HK := Lib.hid (hK.below hb)
  have HB := Lib.hid hb
  have HX := Lib.hid hbx
  have hch : checkN p = if (Y.chk p).2 ≠ 0 then (Y.chk p).2 else if (firstN p).2.2 = true then 12 else 0 := rfl
  obtain ⟨R, hR⟩ : ∃ R, checkN p = R := ⟨_, rfl⟩
  rw [hR] at hch ⊢
  have HR := Lib.hid hch
  generalize (Y.chk p).2 = x at *
  generalize firstN p = y at *
  obtain ⟨y1, y2, y3⟩ := y
  unfold prO at *
  unfold prV at *
  clear hok hc1 hK hb hbx ht hch hR
  by_cases h0 : x = 0
  case neg =>
    have b1 : (x != 0) = true := bne_iff_ne.2 h0
    have HV : Hid (R = x) := by show _ = _; rw [HR.out, if_pos h0]
    clear h0
    go_enter Tryz.func8, Tryz.ntmps8
    go_wp2_with fail
    refine HC.out.mono ?_; rintro e' w2 ⟨rfl, hb2⟩
    have HB2 := Lib.hid (below_2 HB.out hb2)
    clear hb2
    go_wp2_with fail
    go_ret
    exact ⟨ret_int HV.out.symm, HB2.out⟩
  subst h0
  have HV : Hid (R = if y3 = true then 12 else 0) := by show _ = _; rw [HR.out, if_neg (fun z => z rfl)]
  go_enter Tryz.func8, Tryz.ntmps8
  go_wp2_with fail
  refine HC.out.mono ?_; rintro e' w2 ⟨rfl, hb2⟩
  have HB2 := Lib.hid (below_2 HB.out hb2)
  have HF2 := Lib.hid (HF.out _ (HK.out.below hb2))
  have x0 := (HX.out.below hb2).cell 0
  have x1 := (HX.out.below hb2).cell 1
  have x2 := (HX.out.below hb2).cell 2
  simp at x0 x1 x2
  clear hb2 HC
  go_wp2_with fail
  refine HF2.out.mono ?_; rintro e' w3 ⟨rfl, hb3⟩
  have HB3 := Lib.hid (below_2 HB2.out hb3)
  clear hb3 x0 x1 x2
  cases y3 with
  | true =>
    have HV2 : Hid (R = 12) := HV.out
    go_wp2_with fail
    go_ret
    exact ⟨ret_int HV2.out.symm, HB3.out⟩
  | false =>
    have HV2 : Hid (R = 0) := HV.out
    go_wp2_with fail
    go_ret
    exact ⟨ret_int HV2.out.symm, HB3.out⟩
end Go.Proofs.YtkjefigebdbkaaaGreatDoor.N
namespace Go.Proofs.YtkjefigebdbkaaaGreatDoor.N
open Go.RowKit
open A (Ex exV exO exV_mk exO_mk okE Bx RowK Own1 Stays)
open L (below_2 below_box ret_bool)

theorem info_i : (Tryz.prog.info? 3).map (fun i => (i.zero, i.size, i.bytes)) = some (some (.int .i64 0), 1, 8) := by kernel_rfl
def kI : RowK Int where
  f := fun x => [.int .i64 x]
  size := 1
  bytes := 8
  t := 46
  e := 3
  z := .int .i64 0
  inn := fun _ _ _ => True
  und := Tryz.underlying46
  info := info_i
  len := fun _ => rfl
  one := fun x u hu => by simp at hu; rw [hu]; rfl
  pos := by decide
  zs := rfl
  small := by decide
  next := fun _ _ => trivial
def IntsAt (w : World) (a : Option Addr) (l : List Int) : Prop := l = [] ∨ ∃ b i, a = some ⟨b, i, none⟩ ∧ ∀ j (h : j < l.length), w.cell? ⟨b, i + j, none⟩ = some (.int .i64 l[j])
theorem IntsAt.open {w : World} {a : Option Addr} {l : List Int} (h : IntsAt w a l) {k : Nat} (hk : k < l.length) : ∃ b i, a = some ⟨b, i, none⟩ ∧ ∀ j (h : j < l.length), w.cell? ⟨b, i + j, none⟩ = some (.int .i64 l[j]) :=
  h.resolve_left (fun e => by rw [e] at hk; exact absurd hk (Nat.not_lt_zero _))
theorem own_ints {w : World} {b0 : Nat} {Z : Nat → Prop} {p : Option Addr} {q : Nat} {l : List Int} (h : Own1 kI w b0 Z (.slice p l.length q) l) : IntsAt w p l := by
  by_cases h0 : l = []
  · exact Or.inl h0
  · obtain ⟨g, rfl, _, _⟩ := h.cell (List.length_pos_iff.2 h0)
    refine Or.inr ⟨g, 0, rfl, fun j hj => ?_⟩
    obtain ⟨g2, hg, _, hc⟩ := h.cell hj
    cases hg
    have := hc 0 (by decide)
    rw [Nat.zero_add]
    rw [show j * kI.size + 0 = j from Nat.mul_one j] at this
    exact this
theorem flat_getI (l : List Int) (j : Nat) (u : Value) (h : (kI.cs l)[j]? = some u) : ∃ hj : j < l.length, u = .int .i64 l[j] := by
  have hlt := (List.getElem?_eq_some_iff.1 h).1
  rw [RowK.cs_len] at hlt
  have hs : kI.size = 1 := rfl
  rw [hs] at hlt
  have hj : j < l.length := by omega
  have hg := RowK.cs_get kI l j hj 0 (by decide)
  rw [hs, Nat.mul_one, Nat.add_zero, h] at hg
  exact ⟨hj, Option.some.inj hg⟩
theorem wpList_append_ints {w : World} {ops : Array Oper} {rest : List Oper} {o : Oper} {a : Act} {Q : Exit → Act → World → Prop} (hgd : o.guard = none) (s x : Operand)
    (ho : o.op = .call { callee := .builtin .append, args := #[s, x], argTypes := #[46, 46] })
    (base : Nat) (Z : Nat → Prop) (p : Option Addr) (n q : Nat) (l m : List Int) (hn : n = l.length) (hs : a.eval s = .slice p n q) (hown : Own1 kI w base Z (.slice p l.length q) l)
    (xa : Option Addr) (mm xc : Nat) (hmm : mm = m.length) (hx : a.eval x = .slice xa mm xc) (hP : IntsAt w xa m) (hm0 : 0 < m.length) (hl : l.length + m.length ≤ 1000000000000) (hbase : base ≤ w.heap.size) (hZ : ∀ k, Z k → k < base)
    (h : ∀ p' q' w', Own1 kI w' base Z (.slice p' (l ++ m).length q') (l ++ m) → w.grownBy w' (Value.slice p l.length q).ownBlock → Go.wpList Tryz.prog ops Q rest (a.put o.dst (.slice p' (n + mm) q')) w') :
    Go.wpList Tryz.prog ops Q (o :: rest) a w := by
  subst hn hmm
  obtain ⟨i0, hi, hz0, hz1, hz2⟩ := A.info_parts3 kI.info
  rcases hP with h0 | ⟨b, i, rfl, hc⟩
  · rw [h0] at hm0; exact absurd hm0 (Nat.lt_irrefl _)
  · refine wpList_append_lies _ hgd s x kI.t ho base kI.e i0 _ kI.size kI.bytes kI.und hi hz0 hz1 hz2 kI.zs kI.pos (.slice p l.length q) l.length (kI.cs l) hs hown.row ⟨b, i, none⟩ m.length xc (kI.cs m) hx (RowK.cs_len kI m) ?_ ?_ (by omega) (by unfold maxLen; omega) ?_ hbase w.heap.size rfl ?_
    · intro j u hu
      obtain ⟨hj, rfl⟩ := flat_getI m j u hu
      rw [WideShapes.add_plain]
      exact hc j hj
    · intro u hu
      obtain ⟨y, hy, hu⟩ := List.mem_flatMap.1 hu
      exact kI.one y u hu
    · show (l.length + m.length) * 8 ≤ _
      omega
    · intro g cap w' h1 h2 h3 _
      refine h (some ⟨g, 0, none⟩) cap w' ⟨?_, fun g' hg hz => ?_, fun _ _ => trivial⟩ h2
      · rw [List.length_append, RowK.cs_app]; exact h1
      · have hk2 : g = g' := by injection hg
        subst hk2
        have := hZ g hz
        rcases h3 with h3 | h3
        · have := (hown.lt g h3).1; omega
        · omega
theorem own_lit (w : World) (o : Int) : Own1 kI (w.alloc (.cells #[.int .i64 o] 3)) w.heap.size (fun _ => False) (.slice (some ⟨w.heap.size, 0, none⟩) 1 1) [o] :=
  ⟨World.ownsRow_lit w #[.int .i64 o] 1 (Nat.le_refl _) (by decide) rfl, fun _ _ h => h, fun _ _ => trivial⟩
def GivesI (w : World) (x : List Int) (e' : Ending) (w' : World) : Prop := ∃ p q, e' = .returned (.slice p x.length q) ∧ IntsAt w' p x ∧ Below w.heap.size w w'
theorem ops_pos (e : Ex) : 0 < (ops e).length := by rw [ops_op]; simp
theorem take_flatR {l : List Ex} {k : Nat} (hk : k < l.length) : (l.take (k + 1)).flatMap ops = (l.take k).flatMap ops ++ ops l[k] := by
  rw [List.take_succ_eq_append_getElem hk, List.flatMap_append]
  simp
theorem take_preR (l : List Ex) (k : Nat) : ((l.take k).flatMap ops).length ≤ (l.flatMap ops).length := by
  conv => rhs; rw [← List.take_append_drop k l]
  rw [List.flatMap_append, List.length_append]; omega
def QO (e : Ex) : Prop := ∀ (a : Option Addr) (c : Nat) (w : World), okE e → (ops e).length ≤ 1000000000 → A.Kids w a e.args → Calls Tryz.prog 23 #[exV e a c] w (GivesI w (ops e))
set_option maxHeartbeats 8000000 in
set_option maxRecDepth 100000 in
theorem rOps_any : ∀ e, QO e := by
  refine A.Ex.ind (P := QO) ?_
  intro o n s l ih a c w hok hlen hK
  have hK' : A.Kids w a l := hK
  have hb := below_box w (exO (.mk o n s l) a c)
  have hbx := Bx.new w #[.int .i64 o, .int .i64 n, .string s, .slice a l.length c] 41
  have hokl : ∀ x ∈ l, okE x := by
    rw [okE] at hok
    exact fun x hx => by
      obtain ⟨j, hj, rfl⟩ := List.getElem_of_mem hx
      exact A.okEs.get hok.2.2.2.2 j hj
  have hll : l.length ≤ 1000000000000000 := by rw [okE] at hok; exact hok.2.2.2.1
  rw [ops_mk] at hlen ⊢
  simp only [exV_mk]
  have HB := Lib.hid hb
  have HX := Lib.hid hbx
  have HK := Lib.hid (hK'.below hb)
  have HLen : Hid ((l.flatMap ops).length + 1 ≤ 1000000000) := by show _ ≤ _; simpa using hlen
  have HIH : Hid (∀ (k : Nat) (h : k < l.length) a2 c2 w', A.Kids w' a2 l[k].args → Calls Tryz.prog 23 #[exV l[k] a2 c2] w' (GivesI w' (ops l[k]))) :=
    fun k h a2 c2 w' h2 => ih k h a2 c2 w' (hokl _ (List.getElem_mem h)) (by
      have h1 := HLen.out
      have h3 := take_flatR h
      have h4 := take_preR l (k + 1)
      rw [h3, List.length_append] at h4
      omega) h2
  simp only [exO_mk] at HX HB HK
  have HOw := Lib.hid (own_lit (w.alloc (.cells #[.int .i64 o, .int .i64 n, .string s, .slice a l.length c] 41)) o)
  have hb2 := below_box (w.alloc (.cells #[.int .i64 o, .int .i64 n, .string s, .slice a l.length c] 41)) (.cells #[.int .i64 o] 3)
  obtain ⟨g, hg⟩ : ∃ g, l.length = g := ⟨_, rfl⟩
  have HL := Lib.hid hg
  rw [hg] at hll HX HB HK HOw hb2 ⊢
  have x0 := HX.out.cell 0
  have x1 := HX.out.cell 1
  have x2 := HX.out.cell 2
  have x3 := HX.out.cell 3
  obtain ⟨W1, hW1⟩ : ∃ W1, w.alloc (.cells #[.int .i64 o, .int .i64 n, .string s, .slice a g c] 41) = W1 := ⟨_, rfl⟩
  rw [hW1] at HX HB HK HOw hb2
  have HS1 : Hid (W1.heap.size = w.heap.size + 1) := by show _ = _; rw [← hW1]; simp
  have HW1 := Lib.hid hW1
  obtain ⟨W2, hW2⟩ : ∃ W2, W1.alloc (.cells #[.int .i64 o] 3) = W2 := ⟨_, rfl⟩
  rw [hW2] at HOw hb2
  have HW2 := Lib.hid hW2
  have HB2 := Lib.hid hb2
  clear hg hb hbx hokl hK hK' hok ih hlen hW1 hW2 hb2
  go_enter Tryz.func23, Tryz.ntmps23
  go_wp2_with fail
  rw [HW1.out, HW2.out]
  clear x0 x1 x2 x3
  go_loopw [3, 4] (fun s3 s4 wr => ∃ (k : Nat) (p : Option Addr) (q : Nat) (xs : List Int), k ≤ g ∧ s4 = .int .i64 k ∧ s3 = .slice p xs.length q ∧ Hid (xs = o :: (l.take k).flatMap ops) ∧ Hid (Own1 kI wr W1.heap.size (fun _ => False) (.slice p xs.length q) xs) ∧ Hid (Below W1.heap.size W1 wr)) (fun _ s4 _ => g - (intOf s4).toNat)
  case atStart => exact ⟨0, _, _, [o], Nat.zero_le _, rfl, rfl, rfl, by rw [← HS1.out]; exact HOw.out, HB2.out⟩
  case round =>
    obtain ⟨k, p, q, xs, hk, rfl, rfl, HQ, HO, HBr⟩ := hrel
    have z0 := (HX.out.below HBr.out).cell 0
    have z1 := (HX.out.below HBr.out).cell 1
    have z2 := (HX.out.below HBr.out).cell 2
    have z3 := (HX.out.below HBr.out).cell 3
    by_cases hlt : k < g
    · have hlx : k < l.length := by rw [HL.out]; exact hlt
      obtain ⟨b2, i2, rfl, hat⟩ := (HK.out.below HBr.out).open hlx
      obtain ⟨d0, d1, d2, a2, cc, d3, hk2⟩ := hat.open
      have HCC := Lib.hid (HIH.out k hlx a2 cc wr hk2)
      have HQ2 : Hid (xs ++ ops l[k] = o :: (l.take (k + 1)).flatMap ops) := by show _ = _; rw [HQ.out, take_flatR hlx]; rfl
      have HLn : Hid (xs.length + (ops l[k]).length ≤ 1000000000000) := by
        have h1 := HLen.out
        have h4 := take_preR l (k + 1)
        have h5 := congrArg List.length HQ2.out
        rw [List.length_append, List.length_cons] at h5
        show _ ≤ _
        omega
      have HPo := Lib.hid (ops_pos l[k])
      clear hat hk2
      unfold exV at HCC
      generalize ops l[k] = ys at HCC HQ2 HLn HPo
      generalize l[k].args.length = m2 at d3 HCC
      generalize l[k].op = o2 at d0 HCC
      generalize l[k].n = n2 at d1 HCC
      generalize l[k].s = s2 at d2 HCC
      obtain ⟨xn, hxn⟩ : ∃ n, xs.length = n := ⟨_, rfl⟩
      have HXN := Lib.hid hxn
      rw [hxn]
      clear hxn
      go_wp2_with fail
      refine HCC.out.mono ?_; rintro e w2 ⟨p2, q2, rfl, hi2, hb2⟩
      have HI2 := Lib.hid hi2
      have HB3 := Lib.hid (HBr.out.trans (hb2.mono HBr.out.size))
      have HO2 := Lib.hid (HO.out.below hb2)
      obtain ⟨yn, hyn⟩ : ∃ n, ys.length = n := ⟨_, rfl⟩
      have HYN := Lib.hid hyn
      have HXY : Hid (xn + yn = (xs ++ ys).length) := by show _ = _; rw [List.length_append, HXN.out, hyn]
      have hxy : xn + yn ≤ 1000000000000 := by have := HLn.out; rw [HXN.out, hyn] at this; exact this
      rw [hyn]
      clear hi2 hb2 hyn z0 z1 z2 z3 d0 d1 d2 d3
      go_wp2_with (at_builtin; refine wpList_append_ints rfl (.tmp 15) (.tmp 21) rfl W1.heap.size (fun _ => False) p xn q xs ys HXN.out.symm rfl HO2.out p2 yn q2 HYN.out.symm rfl HI2.out HPo.out HLn.out HB3.out.size (fun _ h => h.elim) ?_; intro p7 q7 w7 hown7 hgrow7; have HO7 := Lib.hid hown7; have HB7 := Lib.hid (HB3.out.grown hgrow7 HB3.out.size (fun k hk => (HO2.out.lt k hk).1)); clear hown7 hgrow7)
      go_roundw
      case rel => exact ⟨k + 1, p7, q7, xs ++ ys, by omega, by go_num, by rw [HXY.out], HQ2.out, HO7.out, HB7.out⟩
      case measure => simp [intOf]; omega
    · have hq := HQ.out
      rw [List.take_of_length_le (by have := HL.out; omega)] at hq
      have HV : Hid (GivesI w (o :: l.flatMap ops) (.returned (.slice p xs.length q)) wr) := by
        rw [← hq]
        exact ⟨p, q, rfl, own_ints HO.out, below_2 HB.out HBr.out⟩
      clear hq
      go_wp2_with fail
      go_ret
      exact HV.out
end Go.Proofs.YtkjefigebdbkaaaGreatDoor.N
namespace Go.Proofs.YtkjefigebdbkaaaGreatDoor.N
open Go.RowKit
open A (Ex exV exO exV_mk exO_mk okE Bx RowK Own1 Stays)
open L (below_2 below_box ret_bool)

set_option maxHeartbeats 1000000 in
theorem risN_any (o : Int) (w : World) : Calls Tryz.prog 24 #[.int .i64 o] w fun e w' => e = .returned (.bool (isN o)) ∧ w = w' := by
  obtain ⟨R, hR⟩ : ∃ R, isN o = R := ⟨_, rfl⟩
  rw [hR]
  unfold isN at hR
  have HR := Lib.hid hR
  clear hR
  by_cases h1 : o = 25
  · subst h1
    have HV : Hid (true = R) := by show _ = _; rw [← HR.out]; rfl
    go_enter Tryz.func24, Tryz.ntmps24
    go_wp2_with fail
    go_ret
    exact ⟨ret_bool HV.out, rfl⟩
  have b1 : (o == 25) = false := beq_eq_false_iff_ne.2 h1
  by_cases h2 : o = 26
  · subst h2
    have HV : Hid (true = R) := by show _ = _; rw [← HR.out]; rfl
    clear h1 b1
    go_enter Tryz.func24, Tryz.ntmps24
    go_wp2_with fail
    go_ret
    exact ⟨ret_bool HV.out, rfl⟩
  have b2 : (o == 26) = false := beq_eq_false_iff_ne.2 h2
  have HV : Hid (decide (o = 27) = R) := by show _ = _; rw [← HR.out, decide_eq_false h1, decide_eq_false h2]; rfl
  by_cases h3 : o = 27
  · subst h3
    clear h1 h2 b1 b2
    go_enter Tryz.func24, Tryz.ntmps24
    go_wp2_with fail
    go_ret
    exact ⟨ret_bool HV.out, rfl⟩
  have b3 : (o == 27) = false := beq_eq_false_iff_ne.2 h3
  have HV2 : Hid (false = R) := by show _ = _; rw [← HV.out, decide_eq_false h3]
  clear h1 h2 h3
  go_enter Tryz.func24, Tryz.ntmps24
  go_wp2_with fail
  go_ret
  exact ⟨ret_bool HV2.out, rfl⟩
end Go.Proofs.YtkjefigebdbkaaaGreatDoor.N
namespace Go.Proofs.YtkjefigebdbkaaaGreatDoor.N
open Go.RowKit
open A (Ex Pr exV exO exV_mk exO_mk okE Bx RowK Own1 Stays exprs prV prO OkP PrIn)
open L (below_2 below_box ret_bool)

theorem exprs_len {p : Pr} (h : A.valE p = 0) : (exprs p).length ≤ 401 := by
  obtain ⟨-, -, -, h4⟩ := A.val_parts h
  unfold exprs
  have := List.length_filterMap_le A.V.rooted (A.walk p)
  omega
theorem drop_flatR {l : List Ex} {k : Nat} (hk : k < l.length) : (l.drop k).flatMap ops = ops l[k] ++ (l.drop (k + 1)).flatMap ops := by
  rw [List.drop_eq_getElem_cons hk, List.flatMap_cons]
set_option maxHeartbeats 8000000 in
set_option maxRecDepth 100000 in
theorem rFirst_any (p : Pr) (a1 a2 : Option Addr) (c1 c2 : Nat) (hok : OkP p) (w : World) (hK : PrIn w p a1 a2) :
    Calls Tryz.prog 7 #[prV p a1 c1 a2 c2] w fun e' w' => e' = .returned (.tuple #[.int .i64 (firstN p).1, .int .i64 (firstN p).2.1, .bool (firstN p).2.2]) ∧ Below w.heap.size w w' := by
  obtain ⟨W1, e1⟩ : ∃ z, z = w.alloc (.cells #[.string p.name, .slice a1 p.params.length c1, .slice a2 p.body.length c2] 25) := ⟨_, rfl⟩
  have bb1 : Below w.heap.size w W1 := by rw [e1]; exact below_box _ _
  have xx1 := Bx.new w #[.string p.name, .slice a1 p.params.length c1, .slice a2 p.body.length c2] 25
  rw [← e1] at xx1
  have HB := Lib.hid bb1
  have HX := Lib.hid xx1
  have HW : Hid (w.alloc (.cells #[.string p.name, .slice a1 p.params.length c1, .slice a2 p.body.length c2] 25) = W1) := by show _ = _; rw [← e1]
  have HV := Lib.hid (A.UB.rvalidate_any A.rstmt p a1 a2 c1 c2 hok W1 (hK.below bb1))
  have HXs : Hid (∀ w', Below W1.heap.size W1 w' → Calls Tryz.prog 22 #[prV p a1 c1 a2 c2] w' fun e' w'' => A.GivesXs w' (exprs p) e' w'') := fun w' hb => A.rexprs_any p a1 a2 c1 c2 hok.body hok.bodyLen w' (hK.below (below_2 bb1 hb)).body
  have HRo : Hid (A.valE p = 0 → ∀ k (h : k < (exprs p).length) a c w', A.Kids w' a (exprs p)[k].args → Calls Tryz.prog 23 #[exV (exprs p)[k] a c] w' (GivesI w' (ops (exprs p)[k])) ∧ (ops (exprs p)[k]).length ≤ 1200) := fun h0 k h a c w' hk => by
    have hv := A.exprs_ve hok.body _ (List.getElem_mem h)
    have h1 := ops_cE (exprs p)[k]
    have h2 := val_cB h0
    exact ⟨rOps_any _ a c w' hv.1 (by omega) hk, by omega⟩
  have HLn : Hid (A.valE p = 0 → (exprs p).length ≤ 401) := fun h0 => exprs_len h0
  obtain ⟨R, hR⟩ : ∃ R, firstN p = R := ⟨_, rfl⟩
  rw [hR]
  unfold firstN allOps at hR
  have HR := Lib.hid hR
  clear e1 bb1 xx1 hok hK hR
  obtain ⟨R1, R2, R3⟩ := R
  generalize A.valE p = x at *
  unfold prV at *
  dsimp only
  by_cases h0 : x = 0
  case neg =>
    have b1 : (x != 0) = true := bne_iff_ne.2 h0
    have h := HR.out
    rw [if_pos h0] at h
    cases h
    clear h0 HR
    go_enter Tryz.func7, Tryz.ntmps7
    go_wp2_with fail
    rw [HW.out]
    have x0 := HX.out.cell 0
    have x1 := HX.out.cell 1
    have x2 := HX.out.cell 2
    simp only [List.getElem?_toArray, List.getElem?_cons_zero, List.getElem?_cons_succ] at x0 x1 x2
    go_wp2_with fail
    refine HV.out.mono ?_; rintro e' w2 ⟨rfl, hb2⟩
    have HB2 := Lib.hid (below_2 HB.out hb2)
    clear hb2 x0 x1 x2
    go_wp2_with fail
    go_ret3
    exact ⟨rfl, HB2.out⟩
  subst h0
  have hfs : fstF 0 ((exprs p).flatMap ops) = (R1, R2, R3) := by have h := HR.out; rw [if_neg (fun z => z rfl)] at h; exact h
  have HRo2 := Lib.hid (HRo.out rfl)
  have hln := HLn.out rfl
  clear HR HRo HLn
  generalize exprs p = rs at *
  have HF0 : Hid (fstF ((0 : Nat) : Int) ((rs.drop 0).flatMap ops) = (R1, R2, R3)) := hfs
  clear hfs
  go_enter Tryz.func7, Tryz.ntmps7
  go_wp2_with fail
  rw [HW.out]
  have x0 := HX.out.cell 0
  have x1 := HX.out.cell 1
  have x2 := HX.out.cell 2
  simp only [List.getElem?_toArray, List.getElem?_cons_zero, List.getElem?_cons_succ] at x0 x1 x2
  go_wp2_with fail
  refine HV.out.mono ?_; rintro e' w2 ⟨rfl, hb2⟩
  have y0 := (HX.out.below hb2).cell 0
  have y1 := (HX.out.below hb2).cell 1
  have y2 := (HX.out.below hb2).cell 2
  simp only [List.getElem?_toArray, List.getElem?_cons_zero, List.getElem?_cons_succ] at y0 y1 y2
  have HXs2 := Lib.hid (HXs.out w2 hb2)
  have HB2 := Lib.hid (below_2 HB.out hb2)
  clear hb2 x0 x1 x2 HXs
  go_wp2_with fail
  refine HXs2.out.mono ?_; rintro e' w3 ⟨pa, pq, rfl, hkd, hb3⟩
  have HKd := Lib.hid hkd
  have HB3 := Lib.hid (below_2 HB2.out hb3)
  clear hkd hb3 y0 y1 y2 HXs2
  obtain ⟨g, hg⟩ : ∃ g, rs.length = g := ⟨_, rfl⟩
  have HL := Lib.hid hg
  rw [hg] at hln ⊢
  clear hg
  go_wp2_with fail
  go_loopw [6, 7] (fun s6 s7 wr => ∃ (i n : Nat), i ≤ g ∧ s7 = .int .i64 i ∧ s6 = .int .i64 n ∧ n ≤ 1300 * i ∧ Hid (fstF (n : Int) ((rs.drop i).flatMap ops) = (R1, R2, R3)) ∧ Hid (Below w3.heap.size w3 wr)) (fun _ s7 _ => g - (intOf s7).toNat)
  case atStart => exact ⟨0, 0, Nat.zero_le _, rfl, rfl, Nat.zero_le _, HF0.out, Below.refl _ _⟩
  case round =>
    clear HF0
    obtain ⟨i, n, hi, rfl, rfl, hni, HF, HBr⟩ := hrel
    by_cases hlt : i < g
    · have hlx : i < rs.length := by rw [HL.out]; exact hlt
      obtain ⟨b2, i2, rfl, hat⟩ := (HKd.out.below HBr.out).open hlx
      obtain ⟨d0, d1, d2, a3, cc, d3, hk3⟩ := hat.open
      obtain ⟨hop, hlen⟩ := HRo2.out i hlx a3 cc wr hk3
      have hfl := HF.out
      rw [drop_flatR hlx] at hfl
      have HOp := Lib.hid hop
      clear hat hk3 hop
      unfold exV at HOp
      generalize ops rs[i] = l at HOp hlen hfl
      generalize rs[i].args.length = m2 at d3 HOp
      generalize rs[i].op = o2 at d0 HOp
      generalize rs[i].n = n2 at d1 HOp
      generalize rs[i].s = s2 at d2 HOp
      have HF2 : Hid (fstF (n : Int) ((l.drop 0) ++ (rs.drop (i + 1)).flatMap ops) = (R1, R2, R3)) := hfl
      clear hfl
      go_wp2_with fail
      refine HOp.out.mono ?_; rintro e' w5 ⟨la, lq, rfl, hin, hb5⟩
      have HIn := Lib.hid hin
      have HB5 := Lib.hid (HBr.out.trans (hb5.mono HBr.out.size))
      clear hin hb5 d0 d1 d2 d3
      obtain ⟨m, hm⟩ : ∃ m, l.length = m := ⟨_, rfl⟩
      have HM := Lib.hid hm
      rw [hm] at hlen ⊢
      clear hm
      go_wp2_with fail
      go_loopw [6, 9] (fun s6 s9 wq => ∃ (k : Nat), k ≤ m ∧ s9 = .int .i64 k ∧ s6 = .int .i64 ((n + k : Nat) : Int) ∧ Hid (fstF ((n + k : Nat) : Int) ((l.drop k) ++ (rs.drop (i + 1)).flatMap ops) = (R1, R2, R3)) ∧ wq = w5) (fun _ s9 _ => m - (intOf s9).toNat)
      case atStart => exact ⟨0, Nat.zero_le _, rfl, rfl, HF2.out, rfl⟩
      case round =>
        clear HF2
        obtain ⟨k, hk, rfl, rfl, HFk, rfl⟩ := hrel
        by_cases hkm : k < m
        · have hkl : k < l.length := by rw [HM.out]; exact hkm
          obtain ⟨b3, i3, rfl, hcc⟩ := HIn.out.open hkl
          have f0 := hcc k hkl
          have hfk := HFk.out
          rw [List.drop_eq_getElem_cons hkl, List.cons_append, fstF] at hfk
          have HI1 := Lib.hid (fun (w' : World) => risN_any l[k] w')
          obtain ⟨b, hb⟩ : ∃ b, isN l[k] = b := ⟨_, rfl⟩
          rw [hb] at HI1 hfk
          clear hb hcc
          generalize l[k] = y at *
          obtain ⟨t, ht⟩ : ∃ t, n + k = t := ⟨_, rfl⟩
          have htb : t ≤ 600000 := by omega
          have htn : t + 1 = n + (k + 1) := by omega
          rw [ht] at hfk ⊢
          have HTn := Lib.hid htn
          clear ht htn
          cases b with
          | true =>
            rw [if_pos rfl] at hfk
            cases hfk
            have HBf := Lib.hid (HB3.out.trans (HB5.out.mono HB3.out.size))
            go_wp2_with fail
            refine (HI1.out _).mono ?_; rintro e' w' ⟨rfl, rfl⟩
            go_wp2_with fail
            go_ret3
            exact ⟨rfl, HBf.out⟩
          | false =>
            rw [if_neg (by decide)] at hfk
            have HFn : Hid (fstF ((n + (k + 1) : Nat) : Int) ((l.drop (k + 1)) ++ (rs.drop (i + 1)).flatMap ops) = (R1, R2, R3)) := by
              show _ = _
              rw [← HTn.out]
              exact hfk
            clear hfk
            go_wp2_with fail
            refine (HI1.out _).mono ?_; rintro e' w' ⟨rfl, rfl⟩
            go_wp2_with fail
            go_roundw
            case rel => exact ⟨k + 1, by omega, by go_num, by rw [← HTn.out]; go_num, HFn.out, trivial⟩
            case measure => simp [intOf]; omega
        · obtain rfl : k = m := by omega
          have HFn : Hid (fstF ((n + k : Nat) : Int) ((rs.drop (i + 1)).flatMap ops) = (R1, R2, R3)) := by
            have h := HFk.out
            rw [List.drop_of_length_le (by rw [HM.out]; exact Nat.le_refl _), List.nil_append] at h
            exact h
          go_wp2_with fail
          go_roundw
          case rel => exact ⟨i + 1, n + k, by omega, by go_num, rfl, by omega, HFn.out, HB5.out⟩
          case measure => simp [intOf]; omega
    · have h := HF.out
      rw [List.drop_of_length_le (by rw [HL.out]; omega), List.flatMap_nil, fstF] at h
      cases h
      have HBf := Lib.hid (below_2 HB3.out HBr.out)
      go_wp2_with fail
      go_ret3
      exact ⟨rfl, HBf.out⟩
end Go.Proofs.YtkjefigebdbkaaaGreatDoor.N
