/-
  The laws of layer 11: variables that are added do not change a type.
-/
import Derived.Test.YtlebflphgeolfaaDoorQYLF
namespace Go.Proofs.YtlebflphgeolfaaDoor.Y
open Go.RowKit
open L (Str isName prt size_len below_2 below_box ret_bool ret_int eql_eq bytes_eq)
open A (Ex St Pm Pr V arity vE vEs absent exV exO exV_mk Bx okE okEs cE cEs PmsAt StrsAt PrIn OkP prV prO names valE ExsAt ExAt StsAt StAt Bodies RowK Own1 Stays)
open P (G Kd On off_of wp_region_G)

theorem OkV.app {l m : List Pm} (hl : OkV l) (hm : OkV m) (h : l.length + m.length ≤ 1000000) : OkV (l ++ m) :=
  ⟨by rw [List.length_append]; exact h, fun q hq => by rcases List.mem_append.1 hq with hq | hq; exact hl.name q hq; exact hm.name q hq, fun q hq => by rcases List.mem_append.1 hq with hq | hq; exact hl.ty q hq; exact hm.ty q hq⟩
/-- Of, on an expression whose box was made: the variables' list is any that fits -/
def OOf (e : Ex) (a : Option Addr) (c : Nat) : Prop := ∀ (vs : List Pm) (av : Option Addr) (n cv : Nat), n = vs.length → OkV vs → ∀ w : World, Tb w → A.Kids w a e.args → PmsAt w av vs →
    Calls Tryd.prog 14 #[exV e a c, .slice av n cv] w fun e' w' => e' = .returned (.tuple #[.int .i64 (ofE (look vs) e).1, .int .i64 (ofE (look vs) e).2]) ∧ Below w.heap.size w w'
set_option maxHeartbeats 16000000 in
set_option maxRecDepth 100000 in
theorem lawExtends_any (e : Ex) (a : Option Addr) (c : Nat) (l : List Pm) (av : Option Addr) (cv : Nat) (m : List Pm) (am : Option Addr) (cm : Nat) (hok : okE e)
    (hl : l.length ≤ 1000000000000000) (hn : ∀ q ∈ l, q.name.size ≤ 1000000000000000) (hty : ∀ q ∈ l, -9223372036854775808 ≤ q.ty ∧ q.ty ≤ 9223372036854775807)
    (hl2 : m.length ≤ 1000000000000000) (hn2 : ∀ q ∈ m, q.name.size ≤ 1000000000000000) (hty2 : ∀ q ∈ m, -9223372036854775808 ≤ q.ty ∧ q.ty ≤ 9223372036854775807)
    (w : World) (ht : Tb w) (hK : A.Kids w a e.args) (hP : PmsAt w av l) (hP2 : PmsAt w am m) :
    Calls Tryd.prog 9 #[exV e a c, .slice av l.length cv, .slice am m.length cm] w fun e' w' => e' = .returned (.bool true) ∧ Below w.heap.size w w' := by
  have hb := below_box w (exO e a c)
  have hbx := Bx.new w #[.int .i64 e.op, .int .i64 e.n, .string e.s, .slice a e.args.length c] 24
  have HB := Lib.hid hb
  have HX := Lib.hid hbx
  have HW := Lib.hid works_any
  have HT := Lib.hid (ht.below hb)
  have HS := Lib.hid (A.rsmallExpr_any e a c 600 (by omega) hok _ (hK.below hb))
  have HF := Lib.hid (fun w' h => few_any l av cv hl hn w' h)
  have HF2 := Lib.hid (fun w' h => few_any m am cm hl2 hn2 w' h)
  have HP := Lib.hid (hP.below hb)
  have HP2 := Lib.hid (hP2.below hb)
  have HO : Hid (cE e ≤ 600 → OOf e a c) := fun h vs av n cv hnl hv w' t hk hp => by subst hnl; exact oOf_any e a c vs av cv hok (by omega) hv w' t hk hp
  have HK := Lib.hid (hK.below hb)
  have HV1 := Lib.hid (fun h : fewM l = true => And.intro (OkV.few h hty) (fewM_le h).1)
  have HV2 := Lib.hid (fun h : fewM m = true => And.intro (OkV.few h hty2) (fewM_le h).1)
  have HZ := Lib.hid (of_zero (look l) e)
  have HRn := Lib.hid (of_rng (look l) e)
  have HSb := Lib.hid (fun (h : (ofE (look l) e).2 = 0) => of_sub (e := e) (look_more l m) h)
  have HS3 : Hid (ofE (look (l ++ m ++ l)) e = ofE (look (l ++ m)) e) := by show _ = _; rw [look_twice]
  obtain ⟨R, hR⟩ : ∃ R, ofE (look l) e = R := ⟨_, rfl⟩
  have HR := Lib.hid hR
  obtain ⟨r1, r2⟩ := R
  rw [hR] at HZ HRn HSb
  generalize cE e = x at *
  generalize hfm : fewM l = fm at *
  generalize hfn : fewM m = fn at *
  obtain ⟨nl, hnl⟩ : ∃ n, l.length = n := ⟨_, rfl⟩
  obtain ⟨nm, hnm⟩ : ∃ n, m.length = n := ⟨_, rfl⟩
  have HNL := Lib.hid hnl
  have HNM := Lib.hid hnm
  rw [hnl] at hl HF ⊢
  rw [hnm] at hl2 HF2 ⊢
  clear hbx hb hok hn hty hn2 hty2 hnl hnm ht hK hP hP2 hR hfm hfn
  have hE : exV e a c = .agg #[.int .i64 e.op, .int .i64 e.n, .string e.s, .slice a e.args.length c] := rfl
  have HO2 : Hid (x ≤ 600 → ∀ (vs : List Pm) (av : Option Addr) (n cv : Nat), n = vs.length → OkV vs → ∀ w : World, Tb w → A.Kids w a e.args → PmsAt w av vs →
    Calls Tryd.prog 14 #[.agg #[.int .i64 e.op, .int .i64 e.n, .string e.s, .slice a e.args.length c], .slice av n cv] w fun e' w' => e' = .returned (.tuple #[.int .i64 (ofE (look vs) e).1, .int .i64 (ofE (look vs) e).2]) ∧ Below w.heap.size w w') := HO.out
  clear HO
  unfold exV exO at *
  clear hE
  have hworks : ∀ wk, Below (w.alloc (.cells #[.int .i64 e.op, .int .i64 e.n, .string e.s, .slice a e.args.length c] 24)).heap.size (w.alloc (.cells #[.int .i64 e.op, .int .i64 e.n, .string e.s, .slice a e.args.length c] 24)) wk → Calls Tryd.prog 13 #[] wk fun e' w' => e' = .returned (.bool true) ∧ Below w.heap.size w w' := fun wk hk =>
    (HW.out wk (HT.out.below hk)).mono fun e' w' h => ⟨h.1, below_2 HB.out (below_2 hk h.2)⟩
  have HWk := Lib.hid hworks
  clear hworks HW
  by_cases hx : x ≤ 600
  case neg =>
    rw [decide_eq_false hx] at HS
    clear hx
    go_enter Tryd.func9, Tryd.ntmps9
    go_wp2_with fail
    refine HS.out.mono ?_; rintro e' w2 ⟨rfl, hb2⟩
    have HB2 := Lib.hid hb2
    clear hb2
    go_wp2_with fail
    refine (HWk.out _ HB2.out).mono ?_; rintro e' w3 ⟨rfl, hb3⟩
    have HB3 := Lib.hid hb3
    clear hb3
    go_wp2_with fail
    go_ret
    exact ⟨rfl, HB3.out⟩
  rw [decide_eq_true hx] at HS
  have HO := Lib.hid (HO2.out hx)
  clear hx HO2
  go_enter Tryd.func9, Tryd.ntmps9
  go_wp2_with fail
  refine HS.out.mono ?_; rintro e' w2 ⟨rfl, hb2⟩
  have HB2 := Lib.hid hb2
  clear hb2 HS
  go_wp2_with fail
  refine (HF.out _ (HP.out.below HB2.out)).mono ?_; rintro e' w3 ⟨rfl, rfl⟩
  cases fm with
  | false =>
    go_wp2_with fail
    refine (HWk.out _ HB2.out).mono ?_; rintro e' w3 ⟨rfl, hb3⟩
    have HB3 := Lib.hid hb3
    clear hb3
    go_wp2_with fail
    go_ret
    exact ⟨rfl, HB3.out⟩
  | true =>
    go_wp2_with fail
    refine (HF2.out _ (HP2.out.below HB2.out)).mono ?_; rintro e' w3 ⟨rfl, rfl⟩
    cases fn with
    | false =>
      go_wp2_with fail
      refine (HWk.out _ HB2.out).mono ?_; rintro e' w3 ⟨rfl, hb3⟩
      have HB3 := Lib.hid hb3
      clear hb3
      go_wp2_with fail
      go_ret
      exact ⟨rfl, HB3.out⟩
    | true =>
      obtain ⟨hv1, hk1⟩ := HV1.out trivial
      obtain ⟨hv2, hk2⟩ := HV2.out rfl
      have K1 := Lib.hid hv1
      have K2 := Lib.hid hv2
      have K3 := Lib.hid (OkV.app hv1 hv2 (by omega))
      have K4 := Lib.hid (OkV.app (OkV.app hv1 hv2 (by omega)) hv1 (by rw [List.length_append]; omega))
      have L1 : Hid (([] : List Pm).length + l.length ≤ 1000000) := by show _ ≤ _; simp; omega
      have L2 : Hid (l.length + m.length ≤ 1000000) := by show _ ≤ _; omega
      have L3 : Hid ((l ++ m).length + l.length ≤ 1000000) := by show _ ≤ _; rw [List.length_append]; omega
      have N2 : Hid (nl + nm = (l ++ m).length) := by show _ = _; rw [List.length_append, HNL.out, HNM.out]
      have N3 : Hid (nl + nm + nl = (l ++ m ++ l).length) := by show _ = _; rw [List.length_append, List.length_append, HNL.out, HNM.out]
      clear hv1 hv2 hk1 hk2 HV1 HV2 HF HF2
      have x0 := (HX.out.below HB2.out).cell 0
      have x1 := (HX.out.below HB2.out).cell 1
      have x2 := (HX.out.below HB2.out).cell 2
      have x3 := (HX.out.below HB2.out).cell 3
      have HC := Lib.hid (HO.out l av nl cv HNL.out.symm K1.out _ (HT.out.below HB2.out) (HK.out.below HB2.out) (HP.out.below HB2.out))
      rw [HR.out] at HC
      go_wp2_with fail
      refine HC.out.mono ?_; rintro e' w4 ⟨rfl, hb4⟩
      have HB4 := Lib.hid (below_2 HB2.out hb4)
      clear hb4 HC x0 x1 x2 x3 HB2
      by_cases h2 : r2 = 0
      case neg =>
        have hz : r1 = 0 := HZ.out h2
        subst hz
        have b2 : (r2 != 0) = true := bne_iff_ne.2 h2
        clear h2
        go_wp2_with fail
        refine (HWk.out _ HB4.out).mono ?_; rintro e' w5 ⟨rfl, hb5⟩
        have HB5 := Lib.hid hb5
        clear hb5
        go_wp2_with fail
        go_ret
        exact ⟨ret_bool (by simp), HB5.out⟩
      subst h2
      obtain ⟨g1, g2⟩ : 1 ≤ r1 ∧ r1 ≤ 3 := HRn.out rfl
      have b3 : decide (r1 < 1) = false := decide_eq_false (by omega)
      have b4 : decide (3 < r1) = false := decide_eq_false (by omega)
      have S1 := Lib.hid (HSb.out rfl)
      have S2 := Lib.hid (HS3.out.trans S1.out)
      clear g1 g2 HRn HSb HS3 HZ
      have hs4 := HB4.out.size
      have HI4 := Lib.hid hs4
      go_wp2_with (at_builtin; first
        | (refine wpList_append_pms rfl (.tmp 39) (.tmp 40) rfl _ (fun _ => False) none 0 0 [] l rfl rfl Own1.nil av nl cv HNL.out.symm rfl (HP.out.below HB4.out) L1.out HI4.out (fun _ h => h.elim) ?_; intro p7 q7 w7 hown7 hgrow7; have HO7 : Hid (Own1 kP w7 (w.alloc (.cells #[.int .i64 e.op, .int .i64 e.n, .string e.s, .slice a e.args.length c] 24)).heap.size (fun _ => False) (.slice p7 l.length q7) l) := hown7; have HB7 := Lib.hid (HB4.out.grown hgrow7 HI4.out (fun k hk => by cases hk)); have HI7 := Lib.hid HB7.out.size; clear hown7 hgrow7)
        | (refine wpList_append_pms rfl (.tmp 42) (.tmp 43) rfl _ (fun _ => False) p7 nl q7 l m HNL.out.symm rfl HO7.out am nm cm HNM.out.symm rfl (HP2.out.below HB7.out) L2.out HI7.out (fun _ h => h.elim) ?_; intro p8 q8 w8 hown8 hgrow8; have HO8 := Lib.hid hown8; have HB8 := Lib.hid (HB7.out.grown hgrow8 HI7.out (fun k hk => (HO7.out.lt k hk).1)); have HI8 := Lib.hid HB8.out.size; clear hown8 hgrow8; have y0 := (HX.out.below HB8.out).cell 0; have y1 := (HX.out.below HB8.out).cell 1; have y2 := (HX.out.below HB8.out).cell 2; have y3 := (HX.out.below HB8.out).cell 3))
      have HC8 := Lib.hid (HO.out (l ++ m) p8 (nl + nm) q8 N2.out K3.out _ (HT.out.below HB8.out) (HK.out.below HB8.out) (own_pms HO8.out))
      rw [S1.out] at HC8
      refine HC8.out.mono ?_; rintro e' w9 ⟨rfl, hb9⟩
      have HB9 := Lib.hid (below_2 HB8.out hb9)
      have HO9 := Lib.hid (HO8.out.below hb9)
      have HI9 := Lib.hid HB9.out.size
      clear hb9 HC8 y0 y1 y2 y3
      go_wp2_with (at_builtin; refine wpList_append_pms rfl (.tmp 66) (.tmp 67) rfl _ (fun _ => False) p8 (nl + nm) q8 (l ++ m) l N2.out rfl HO9.out av nl cv HNL.out.symm rfl (HP.out.below HB9.out) L3.out HI9.out (fun _ h => h.elim) ?_; intro p10 q10 w10 hown10 hgrow10; have HO10 := Lib.hid hown10; have HB10 := Lib.hid (HB9.out.grown hgrow10 HI9.out (fun k hk => (HO9.out.lt k hk).1)); clear hown10 hgrow10; have y0 := (HX.out.below HB10.out).cell 0; have y1 := (HX.out.below HB10.out).cell 1; have y2 := (HX.out.below HB10.out).cell 2; have y3 := (HX.out.below HB10.out).cell 3)
      have HC11 := Lib.hid (HO.out (l ++ m ++ l) p10 (nl + nm + nl) q10 N3.out K4.out _ (HT.out.below HB10.out) (HK.out.below HB10.out) (own_pms HO10.out))
      rw [S2.out] at HC11
      refine HC11.out.mono ?_; rintro e' w11 ⟨rfl, hb11⟩
      have HB11 := Lib.hid (below_2 HB10.out hb11)
      clear hb11 HC11 y0 y1 y2 y3
      go_wp2_with fail
      refine (HWk.out _ HB11.out).mono ?_; rintro e' w12 ⟨rfl, hb12⟩
      have HB12 := Lib.hid hb12
      clear hb12
      go_wp2_with fail
      go_ret
      exact ⟨ret_bool (by simp), HB12.out⟩
end Go.Proofs.YtlebflphgeolfaaDoor.Y
