/-
  The laws of layer 14: a renamed variable.
-/
import Derived.Test.YtnelpgeiioflmaaGreatDoorSFWB
import Derived.Test.YtnelpgeiioflmaaGreatDoorSARR
import Derived.Test.YtnelpgeiioflmaaGreatDoorM13
namespace Go.Proofs.YtnelpgeiioflmaaGreatDoor.F
open Go.RowKit
open L (Str isName prt size_len below_2 below_box ret_bool ret_int eql_eq bytes_eq)
open A (Ex St Pm Pr Bx PmsAt StrsAt PrIn OkP prV prO names cB SmP small GivesN GivesV walk exprs)
open Y (chk Tb)
open P (On off_of on_set wp_region_inv IS)

theorem bx3 {w : World} {b : Nat} {x y z : Value} {t : TypeId} (h : Bx w b #[x, y, z] t) : w.cell? ⟨b, 0, none⟩ = some x ∧ w.cell? ⟨b, 1, none⟩ = some y ∧ w.cell? ⟨b, 2, none⟩ = some z := ⟨h.cell 0, h.cell 1, h.cell 2⟩
structure Rn (p q : Pr) (f t : ByteArray) : Prop where
  T : taint q = (taint p).map (A.swap f t)
  K : keysT q = keysT p
  C : ctrlT q = ctrlT p
  I : indep q = indep p
  ne : t ≠ f
  pp : A.Pp q
theorem rn_of {p : Pr} {f t : ByteArray} (hok : OkP p) (s : SmP p 600) (ht : t.size ≤ 200) (h0 : (A.rename p f t).2 = 0) : Rn p (A.rename p f t).1 f t := by
  have hpp := A.pp_rename (f := f) hok s ht
  obtain ⟨r, hr⟩ : ∃ r, A.rename p f t = r := ⟨_, rfl⟩
  rw [hr] at h0 hpp ⊢
  obtain ⟨q, e⟩ := r
  have h0' : e = 0 := h0
  subst h0'
  obtain ⟨r1, r2, r3, r4⟩ := rename_main hr
  obtain ⟨hv, -, hfn, hoc, -⟩ := A.rename_parts hr
  refine ⟨r1, r2, r3, r4, fun z => ?_, hpp⟩
  have := (A.declared hv hfn).2
  rw [← z, hoc] at this
  cases this
set_option maxHeartbeats 16000000 in
set_option maxRecDepth 100000 in
theorem lawRenames_any (p : Pr) (a1 a2 : Option Addr) (c1 c2 : Nat) (hok : OkP p) (hc1 : p.params.length ≤ c1) (f t : ByteArray) (w : World) (ht : Tb w) (hK : PrIn w p a1 a2) :
    Calls Tryz.prog 7 #[prV p a1 c1 a2 c2, .string f, .string t] w fun e' w' => e' = .returned (.bool true) ∧ Below w.heap.size w w' := by
  have hb := below_box w (prO p a1 c1 a2 c2)
  have hbx := Bx.new w #[.string p.name, .slice a1 p.params.length c1, .slice a2 p.body.length c2] 25
  have HS := Lib.hid (A.rsmall_any p a1 c1 a2 c2 600 (by omega) hok _ (hK.below hb))
  have HSm : Hid (small p 600 = true → Sm p a1 a2 c1 c2) := fun h => sm_of (m := 600) (by omega) hok hc1 (A.small_smp h)
  have HT := Lib.hid (ht.below hb)
  have HX := Lib.hid hbx
  have HK := Lib.hid (hK.below hb)
  have HB0 := Lib.hid hb
  have hworks : ∀ wk, Below (w.alloc (.cells #[.string p.name, .slice a1 p.params.length c1, .slice a2 p.body.length c2] 25)).heap.size (w.alloc (.cells #[.string p.name, .slice a1 p.params.length c1, .slice a2 p.body.length c2] 25)) wk → Calls Tryz.prog 10 #[] wk fun e' w' => e' = .returned (.bool true) ∧ Below w.heap.size w w' := fun wk hk =>
    (works_any wk ((ht.below hb).below hk)).mono fun e' w' h => ⟨h.1, below_2 hb (below_2 hk h.2)⟩
  have HWk := Lib.hid hworks
  have HRn : Hid (small p 600 = true → t.size ≤ 200 → ∀ w', PrIn w' p a1 a2 → Calls Tryz.prog 25 #[prV p a1 c1 a2 c2, .string f, .string t] w' (A.GivesRn w' (A.rename p f t))) := fun h h2 w' k => by
    have s := A.small_smp h
    exact A.rrename_any A.rstmt p a1 a2 c1 c2 f t hok (by have := s.body; omega) (by have := s.params; omega) (by omega) w' k
  have HF : Hid (small p 600 = true → t.size ≤ 200 → (A.rename p f t).2 = 0 → Rn p (A.rename p f t).1 f t) := fun h h2 h0 => rn_of hok (A.small_smp h) h2 h0
  unfold prV at HS HRn ⊢
  unfold prO at *
  clear hworks hb hbx hok hc1 ht hK
  generalize small p 600 = sm at *
  cases sm with
  | false =>
    go_enter Tryz.func7, Tryz.ntmps7
    go_wp2_with fail
    refine HS.out.mono ?_; rintro e' w2 ⟨rfl, hb2⟩
    have HB2 := Lib.hid hb2
    clear hb2
    go_wp2_with fail
    refine (HWk.out _ HB2.out).mono ?_; rintro e' w3 ⟨rfl, hb3⟩
    have HB3 := Lib.hid hb3
    clear hb3
    go_wp2_with fail
    go_ret
    exact ⟨rfl, HB3.out⟩
  | true =>
  by_cases hf : 200 < f.size
  · have bf : decide ((f.size : Int) > 200) = true := decide_eq_true (by omega)
    go_enter Tryz.func7, Tryz.ntmps7
    go_wp2_with fail
    refine HS.out.mono ?_; rintro e' w2 ⟨rfl, hb2⟩
    have HB2 := Lib.hid hb2
    clear hb2
    go_wp2_with fail
    refine (HWk.out _ HB2.out).mono ?_; rintro e' w3 ⟨rfl, hb3⟩
    have HB3 := Lib.hid hb3
    clear hb3
    go_wp2_with fail
    go_ret
    exact ⟨rfl, HB3.out⟩
  have bf : decide ((f.size : Int) > 200) = false := decide_eq_false (by omega)
  by_cases htt : 200 < t.size
  · have bt : decide ((t.size : Int) > 200) = true := decide_eq_true (by omega)
    go_enter Tryz.func7, Tryz.ntmps7
    go_wp2_with fail
    refine HS.out.mono ?_; rintro e' w2 ⟨rfl, hb2⟩
    have HB2 := Lib.hid hb2
    clear hb2
    go_wp2_with fail
    refine (HWk.out _ HB2.out).mono ?_; rintro e' w3 ⟨rfl, hb3⟩
    have HB3 := Lib.hid hb3
    clear hb3
    go_wp2_with fail
    go_ret
    exact ⟨rfl, HB3.out⟩
  have bt : decide ((t.size : Int) > 200) = false := decide_eq_false (by omega)
  have HRn1 := Lib.hid (HRn.out (by trivial) (by omega))
  have HF1 := Lib.hid (HF.out (by trivial) (by omega))
  obtain ⟨oT, oK, oC, oI, ck, nm, rT, wk, hln⟩ := HSm.out (by trivial)
  have HT1 := Lib.hid oT
  have HK1 := Lib.hid oK
  have HC1 := Lib.hid oC
  have HI1 := Lib.hid oI
  unfold prV at HT1 HK1 HC1 HI1
  clear oT oK oC oI ck nm rT wk HSm
  generalize A.rename p f t = r at *
  obtain ⟨q, e⟩ := r
  clear HF HRn
  go_enter Tryz.func7, Tryz.ntmps7
  go_wp2_with fail
  refine HS.out.mono ?_; rintro e' w2 ⟨rfl, hb2⟩
  have HB2 := Lib.hid hb2
  have x0 := (HX.out.below hb2).cell 0
  have x1 := (HX.out.below hb2).cell 1
  have x2 := (HX.out.below hb2).cell 2
  simp only [List.getElem?_toArray, List.getElem?_cons_zero, List.getElem?_cons_succ] at x0 x1 x2
  have HR2 := Lib.hid (HRn1.out _ (HK.out.below hb2))
  clear hb2 HS HRn1
  go_wp2_with fail
  refine HR2.out.mono ?_; rintro e' w3 ⟨p1, q1, p2, q2, rfl, hpr, hcq, hb3⟩
  have hb3' := below_2 HB2.out hb3
  have hbq := below_box w3 (.cells #[.string q.name, .slice p1 q.params.length q1, .slice p2 q.body.length q2] 25)
  have HQ := Lib.hid (Bx.new w3 #[.string q.name, .slice p1 q.params.length q1, .slice p2 q.body.length q2] 25)
  have HKq := Lib.hid (A.PrIn.below hpr hbq)
  have HCq : Hid (q.params.length ≤ q1) := hcq
  have HB4 := Lib.hid (below_2 hb3' hbq)
  have hz3 := hb3'.size
  have hz1 : (w.alloc (.cells #[.string p.name, .slice a1 p.params.length c1, .slice a2 p.body.length c2] 25)).heap.size = w.heap.size + 1 := by simp
  have HZ3 : Hid (w.heap.size + 1 ≤ w3.heap.size) := by show _ ≤ _; omega
  clear hpr hcq hb3 hb3' hbq hz3 hz1 HR2 HB2 x0 x1 x2
  unfold prV
  by_cases he : e = 0
  case neg =>
    have be : (e != 0) = true := bne_iff_ne.2 he
    clear he
    go_wp2_with fail
    refine (HWk.out _ HB4.out).mono ?_; rintro e' w3 ⟨rfl, hb3⟩
    have HB3 := Lib.hid hb3
    clear hb3
    go_wp2_with fail
    go_ret
    exact ⟨rfl, HB3.out⟩
  subst he
  have hfa : Rn p q f t := HF1.out rfl
  obtain ⟨hT, hKk, hCc, hIi, hne, hpp⟩ := hfa
  have HT2 : Hid (∀ w', Tb w' → PrIn w' q p1 p2 → Calls Tryz.prog 12 #[prV q p1 q1 p2 q2] w' (GivesN w' (taint q))) := fun w' t' k => oTainted_any q p1 p2 q1 q2 hpp.ok hpp.sz hpp.pl hpp.ps HCq.out w' t' k
  have HK2 : Hid (∀ w', Tb w' → PrIn w' q p1 p2 → Calls Tryz.prog 14 #[prV q p1 q1 p2 q2] w' fun e' w'' => e' = .returned (.bool (keysT q)) ∧ Below w'.heap.size w' w'') := fun w' t' k => oKeys_any q p1 p2 q1 q2 hpp.ok hpp.sz hpp.pl hpp.ps HCq.out w' t' k
  have HC2 : Hid (∀ w', Tb w' → PrIn w' q p1 p2 → Calls Tryz.prog 16 #[prV q p1 q1 p2 q2] w' fun e' w'' => e' = .returned (.bool (ctrlT q)) ∧ Below w'.heap.size w' w'') := fun w' t' k => oCtrl_any q p1 p2 q1 q2 hpp.ok hpp.sz hpp.pl hpp.ps HCq.out w' t' k
  have HI2 : Hid (∀ w', Tb w' → PrIn w' q p1 p2 → Calls Tryz.prog 18 #[prV q p1 q1 p2 q2] w' fun e' w'' => e' = .returned (.bool (indep q)) ∧ Below w'.heap.size w' w'') := fun w' t' k => oIndep_any q p1 p2 q1 q2 hpp.ok hpp.sz hpp.pl hpp.ps HCq.out w' t' k
  unfold prV at HT2 HK2 HC2 HI2
  rw [hT] at HT2
  rw [hKk] at HK2
  rw [hCc] at HC2
  rw [hIi] at HI2
  have HNE := Lib.hid hne
  obtain ⟨R, hR⟩ : ∃ R, taint p = R := ⟨_, rfl⟩
  rw [hR] at HT1 HT2 hln
  clear hT hKk hCc hIi hne hpp hR HF1
  generalize keysT p = kt at *
  generalize ctrlT p = ct at *
  generalize indep p = it at *
  obtain ⟨w4, hw4⟩ : ∃ x, w3.alloc (.cells #[.string q.name, .slice p1 q.params.length q1, .slice p2 q.body.length q2] 25) = x := ⟨_, rfl⟩
  rw [hw4] at HQ HKq HB4
  have HW4 := Lib.hid hw4
  clear hw4
  go_upto_region 6 with fail
  rw [HW4.out]
  refine wp_region_inv rfl (fun l a w' => ∃ v0 v1 v2 v3 v4 v5 : Value, a = { tmps := #[Value.agg #[Value.string p.name, Value.slice a1 p.params.length c1, Value.slice a2 p.body.length c2], Value.string f, Value.string t, Value.pointer (some { block := w.heap.size, off := 0 }), undef, undef, Value.bool false, Value.pointer (some { block := w3.heap.size, off := 0 }), Value.int IntKind.i64 0, v4, v5, undef, Value.agg #[Value.string p.name, Value.slice a1 p.params.length c1, Value.slice a2 p.body.length c2], Value.bool true, Value.bool false, Value.bool false, Value.string f, Value.int IntKind.i64 ↑f.size, Value.bool false, Value.bool false, Value.bool false, Value.string t, Value.int IntKind.i64 ↑t.size, Value.bool false, Value.bool false, undef, Value.tuple #[Value.agg #[Value.string q.name, Value.slice p1 q.params.length q1, Value.slice p2 q.body.length q2], Value.int IntKind.i64 0], Value.agg #[Value.string p.name, Value.slice a1 p.params.length c1, Value.slice a2 p.body.length c2], Value.string f, Value.string t, Value.tuple #[Value.agg #[Value.string q.name, Value.slice p1 q.params.length q1, Value.slice p2 q.body.length q2], Value.int IntKind.i64 0], Value.agg #[Value.string q.name, Value.slice p1 q.params.length q1, Value.slice p2 q.body.length q2], Value.int IntKind.i64 0, Value.int IntKind.i64 0, Value.bool false, undef, v0, v1, v2, v3, undef, undef, undef, undef, undef, undef, undef, undef, undef, undef, undef, undef, undef, undef, undef, undef, undef, undef, undef, undef, undef, undef, undef, undef, undef, undef, undef, undef, undef, undef, undef, undef, undef, undef, undef, undef, undef, undef, undef, undef, undef, undef, undef, undef, undef, undef, undef, undef, undef, undef, undef, undef, undef, undef, undef, undef, undef, undef, undef, undef, undef, undef, undef, undef, undef, undef], defers := [] } ∧ IS (FP [.eq (.agg #[.string p.name, .slice a1 p.params.length c1, .slice a2 p.body.length c2]), .strs R, .eq (.agg #[.string q.name, .slice p1 q.params.length q1, .slice p2 q.body.length q2]), .strs (R.map (A.swap f t)), .strs R, .strs (R.map (A.swap f t))]) w4 l w' [v0, v1, v2, v3, v4, v5]) (by kernel_rfl) ?_ ?_ ?_
  · intro l hl
    exact ⟨_, _, _, _, _, _, rfl, IS.start _ _ hl _⟩
  · rintro l a w' ⟨v0, v1, v2, v3, v4, v5, rfl, F⟩ i hi h0 hall
    match i, hi, h0, hall with
    | 0, _, h0, hall =>
      obtain ⟨y0, y1, y2⟩ := bx3 (HX.out.below (below_2 HB4.out F.bel))
      have HF := Lib.hid (F.step FP.mono h0 (show 0 < 6 by decide) (Below.refl _ _) (x := .agg #[.string p.name, .slice a1 p.params.length c1, .slice a2 p.body.length c2]) rfl)
      clear F hall h0
      refine wpOp_step (by rfl) (fun K' hK => ?_); have HKk := Lib.hid hK; clear hK; go_simp
      exact HKk.out _ _ ⟨_, _, _, _, _, _, rfl, HF.out⟩
    | 1, _, h0, hall =>
      obtain rfl : v0 = .agg #[.string p.name, .slice a1 p.params.length c1, .slice a2 p.body.length c2] := F.f 0 (hall 0 (by decide +kernel))
      have HC := Lib.hid (HT1.out w' (HT.out.below (below_2 HB4.out F.bel)) (HK.out.below (below_2 HB4.out F.bel)))
      have HF := Lib.hid (fun w'' hb x hx => F.step FP.mono h0 (show 1 < 6 by decide) (w' := w'') hb (x := x) hx)
      clear F hall h0
      refine wpOp_step (by rfl) (fun K' hK => ?_); have HKk := Lib.hid hK; clear hK; go_simp
      go_at_call 12
      refine HC.out.mono ?_; rintro e' w5 ⟨p5, q5, rfl, hq5, hp5, hb5⟩
      have HF5 := Lib.hid (HF.out w5 hb5 _ (show PC.holds (.strs R) (.slice p5 R.length q5) w5 from ⟨p5, q5, rfl, hp5⟩))
      exact HKk.out _ _ ⟨_, _, _, _, _, _, rfl, HF5.out⟩
    | 2, _, h0, hall =>
      obtain ⟨y0, y1, y2⟩ := bx3 (HQ.out.below F.bel)
      have HF := Lib.hid (F.step FP.mono h0 (show 2 < 6 by decide) (Below.refl _ _) (x := .agg #[.string q.name, .slice p1 q.params.length q1, .slice p2 q.body.length q2]) rfl)
      clear F hall h0
      refine wpOp_step (by rfl) (fun K' hK => ?_); have HKk := Lib.hid hK; clear hK; go_simp
      exact HKk.out _ _ ⟨_, _, _, _, _, _, rfl, HF.out⟩
    | 3, _, h0, hall =>
      obtain rfl : v2 = .agg #[.string q.name, .slice p1 q.params.length q1, .slice p2 q.body.length q2] := F.f 2 (hall 2 (by decide +kernel))
      have HC := Lib.hid (HT2.out w' (HT.out.below (below_2 HB4.out F.bel)) (HKq.out.below F.bel))
      have HF := Lib.hid (fun w'' hb x hx => F.step FP.mono h0 (show 3 < 6 by decide) (w' := w'') hb (x := x) hx)
      clear F hall h0
      refine wpOp_step (by rfl) (fun K' hK => ?_); have HKk := Lib.hid hK; clear hK; go_simp
      go_at_call 12
      refine HC.out.mono ?_; rintro e' w5 ⟨p5, q5, rfl, hq5, hp5, hb5⟩
      have HF5 := Lib.hid (HF.out w5 hb5 _ (show PC.holds (.strs (R.map (A.swap f t))) (.slice p5 (R.map (A.swap f t)).length q5) w5 from ⟨p5, q5, rfl, hp5⟩))
      exact HKk.out _ _ ⟨_, _, _, _, _, _, rfl, HF5.out⟩
    | 4, _, h0, hall =>
      obtain ⟨s1, t1, rfl, hs1⟩ : ∃ p q, v1 = .slice p R.length q ∧ StrsAt w' p R := F.f 1 (hall 1 (by decide +kernel))
      have HF := Lib.hid (F.step FP.mono h0 (show 4 < 6 by decide) (Below.refl _ _) (x := .slice s1 R.length t1) (show PC.holds (.strs R) (.slice s1 R.length t1) w' from ⟨s1, t1, rfl, hs1⟩))
      clear F hall h0
      refine wpOp_step (by rfl) (fun K' hK => ?_); have HKk := Lib.hid hK; clear hK; go_simp
      exact HKk.out _ _ ⟨_, _, _, _, _, _, rfl, HF.out⟩
    | 5, _, h0, hall =>
      obtain ⟨s3, t3, e3, hs3⟩ : ∃ p q, v3 = .slice p (R.map (A.swap f t)).length q ∧ StrsAt w' p (R.map (A.swap f t)) := F.f 3 (hall 3 (by decide +kernel))
      rw [List.length_map] at e3
      subst e3
      have HF := Lib.hid (F.step FP.mono h0 (show 5 < 6 by decide) (Below.refl _ _) (x := .slice s3 R.length t3) (show PC.holds (.strs (R.map (A.swap f t))) (.slice s3 R.length t3) w' from ⟨s3, t3, by rw [List.length_map], hs3⟩))
      clear F hall h0
      refine wpOp_step (by rfl) (fun K' hK => ?_); have HKk := Lib.hid hK; clear hK; go_simp
      exact HKk.out _ _ ⟨_, _, _, _, _, _, rfl, HF.out⟩
    | i + 6, hi, _, _ => exact absurd hi (by show ¬ (i + 6 < 6); omega)
  rintro l9 a w5 ⟨ra0, ra1, ra2, ra3, ra4, ra5, rfl, F⟩ hall
  obtain ⟨pa, qa, rfl, hsa⟩ : ∃ p q, ra4 = .slice p R.length q ∧ StrsAt w5 p R := F.f 4 (hall 4 (by decide))
  obtain ⟨pb, qb, rfl, hsb⟩ : ∃ p q, ra5 = .slice p (R.map (A.swap f t)).length q ∧ StrsAt w5 p (R.map (A.swap f t)) := F.f 5 (hall 5 (by decide))
  have HSA := Lib.hid hsa
  have HSB := Lib.hid hsb
  have HB5 := Lib.hid (below_2 HB4.out F.bel)
  have HQ5 := Lib.hid (HQ.out.below F.bel)
  have HKq5 := Lib.hid (HKq.out.below F.bel)
  clear F hall hsa hsb HT1 HT2 HB4 HQ HKq HW4
  obtain ⟨rn, hrn⟩ : ∃ n, R.length = n := ⟨_, rfl⟩
  have HRN := Lib.hid hrn
  rw [List.length_map, hrn]
  clear hrn
  go_upto_region 7 with fail
  refine wp_region_inv rfl (fun l a w' => ∃ v0 v1 v2 v3 v4 v5 v6 v7 v8 v9 v10 v11 v12 v13 v14 v15 v16 v17 v18 v19 v20 v21 v22 v23 v24 v25 : Value, a = { tmps := #[Value.agg #[Value.string p.name, Value.slice a1 p.params.length c1, Value.slice a2 p.body.length c2], Value.string f, Value.string t, Value.pointer (some { block := w.heap.size, off := 0 }), undef, undef, Value.bool false, Value.pointer (some { block := w3.heap.size, off := 0 }), Value.int IntKind.i64 0, Value.slice pa rn qa, Value.slice pb rn qb, undef, Value.agg #[Value.string p.name, Value.slice a1 p.params.length c1, Value.slice a2 p.body.length c2], Value.bool true, Value.bool false, Value.bool false, Value.string f, Value.int IntKind.i64 ↑f.size, Value.bool false, Value.bool false, Value.bool false, Value.string t, Value.int IntKind.i64 ↑t.size, Value.bool false, Value.bool false, undef, Value.tuple #[Value.agg #[Value.string q.name, Value.slice p1 q.params.length q1, Value.slice p2 q.body.length q2], Value.int IntKind.i64 0], Value.agg #[Value.string p.name, Value.slice a1 p.params.length c1, Value.slice a2 p.body.length c2], Value.string f, Value.string t, Value.tuple #[Value.agg #[Value.string q.name, Value.slice p1 q.params.length q1, Value.slice p2 q.body.length q2], Value.int IntKind.i64 0], Value.agg #[Value.string q.name, Value.slice p1 q.params.length q1, Value.slice p2 q.body.length q2], Value.int IntKind.i64 0, Value.int IntKind.i64 0, Value.bool false, undef, ra0, ra1, ra2, ra3, v0, v1, v2, v3, v4, v5, v6, v7, v8, v9, v10, v11, v12, v13, v14, v15, v16, v17, v18, v19, v20, v21, v22, v23, v24, v25, undef, undef, undef, undef, undef, undef, undef, undef, undef, undef, undef, undef, undef, undef, undef, undef, undef, undef, undef, undef, undef, undef, undef, undef, undef, undef, undef, undef, undef, undef, undef, undef, undef, undef, undef, undef, undef, undef, undef, undef], defers := [] } ∧ IS (FP [.eq (.slice pa rn qa), .eq (.int .i64 rn), .eq (.slice pb rn qb), .eq (.int .i64 rn), .eq (.bool false), .eq (.bool false), .eq (.agg #[.string p.name, .slice a1 p.params.length c1, .slice a2 p.body.length c2]), .eq (.bool kt), .eq (.agg #[.string q.name, .slice p1 q.params.length q1, .slice p2 q.body.length q2]), .eq (.bool kt), .eq (.bool false), .eq (.bool false), .eq (.bool false), .eq (.agg #[.string p.name, .slice a1 p.params.length c1, .slice a2 p.body.length c2]), .eq (.bool ct), .eq (.agg #[.string q.name, .slice p1 q.params.length q1, .slice p2 q.body.length q2]), .eq (.bool ct), .eq (.bool false), .eq (.bool false), .eq (.bool false), .eq (.agg #[.string p.name, .slice a1 p.params.length c1, .slice a2 p.body.length c2]), .eq (.bool it), .eq (.agg #[.string q.name, .slice p1 q.params.length q1, .slice p2 q.body.length q2]), .eq (.bool it), .eq (.bool false), .eq (.bool false)]) w5 l w' [v0, v1, v2, v3, v4, v5, v6, v7, v8, v9, v10, v11, v12, v13, v14, v15, v16, v17, v18, v19, v20, v21, v22, v23, v24, v25]) (by kernel_rfl) ?_ ?_ ?_
  · intro l hl
    exact ⟨_, _, _, _, _, _, _, _, _, _, _, _, _, _, _, _, _, _, _, _, _, _, _, _, _, _, rfl, IS.start _ _ hl _⟩
  · rintro l a w' ⟨v0, v1, v2, v3, v4, v5, v6, v7, v8, v9, v10, v11, v12, v13, v14, v15, v16, v17, v18, v19, v20, v21, v22, v23, v24, v25, rfl, F⟩ i hi h0 hall
    match i, hi, h0, hall with
    | 0, _, h0, hall =>
      have HF := Lib.hid (F.step FP.mono h0 (show 0 < 26 by decide) (Below.refl _ _) (x := .slice pa rn qa) rfl)
      clear F hall h0
      refine wpOp_step (by rfl) (fun K' hK => ?_); have HKk := Lib.hid hK; clear hK; go_simp
      exact HKk.out _ _ ⟨_, _, _, _, _, _, _, _, _, _, _, _, _, _, _, _, _, _, _, _, _, _, _, _, _, _, rfl, HF.out⟩
    | 1, _, h0, hall =>
      obtain rfl : v0 = .slice pa rn qa := F.f 0 (hall 0 (by decide +kernel))
      have HF := Lib.hid (F.step FP.mono h0 (show 1 < 26 by decide) (Below.refl _ _) (x := .int .i64 rn) rfl)
      clear F hall h0
      refine wpOp_step (by rfl) (fun K' hK => ?_); have HKk := Lib.hid hK; clear hK; go_simp
      exact HKk.out _ _ ⟨_, _, _, _, _, _, _, _, _, _, _, _, _, _, _, _, _, _, _, _, _, _, _, _, _, _, rfl, HF.out⟩
    | 2, _, h0, hall =>
      have HF := Lib.hid (F.step FP.mono h0 (show 2 < 26 by decide) (Below.refl _ _) (x := .slice pb rn qb) rfl)
      clear F hall h0
      refine wpOp_step (by rfl) (fun K' hK => ?_); have HKk := Lib.hid hK; clear hK; go_simp
      exact HKk.out _ _ ⟨_, _, _, _, _, _, _, _, _, _, _, _, _, _, _, _, _, _, _, _, _, _, _, _, _, _, rfl, HF.out⟩
    | 3, _, h0, hall =>
      obtain rfl : v2 = .slice pb rn qb := F.f 2 (hall 2 (by decide +kernel))
      have HF := Lib.hid (F.step FP.mono h0 (show 3 < 26 by decide) (Below.refl _ _) (x := .int .i64 rn) rfl)
      clear F hall h0
      refine wpOp_step (by rfl) (fun K' hK => ?_); have HKk := Lib.hid hK; clear hK; go_simp
      exact HKk.out _ _ ⟨_, _, _, _, _, _, _, _, _, _, _, _, _, _, _, _, _, _, _, _, _, _, _, _, _, _, rfl, HF.out⟩
    | 4, _, h0, hall =>
      obtain rfl : v1 = .int .i64 rn := F.f 1 (hall 1 (by decide +kernel))
      obtain rfl : v3 = .int .i64 rn := F.f 3 (hall 3 (by decide +kernel))
      have HF := Lib.hid (F.step FP.mono h0 (show 4 < 26 by decide) (Below.refl _ _) (x := .bool false) rfl)
      clear F hall h0
      refine wpOp_step (by rfl) (fun K' hK => ?_); have HKk := Lib.hid hK; clear hK; go_simp
      exact HKk.out _ _ ⟨_, _, _, _, _, _, _, _, _, _, _, _, _, _, _, _, _, _, _, _, _, _, _, _, _, _, rfl, HF.out⟩
    | 5, _, h0, hall =>
      obtain rfl : v4 = .bool false := F.f 4 (hall 4 (by decide +kernel))
      have HF := Lib.hid (F.step FP.mono h0 (show 5 < 26 by decide) (Below.refl _ _) (x := .bool false) rfl)
      clear F hall h0
      refine wpOp_step (by rfl) (fun K' hK => ?_); have HKk := Lib.hid hK; clear hK; go_simp
      exact HKk.out _ _ ⟨_, _, _, _, _, _, _, _, _, _, _, _, _, _, _, _, _, _, _, _, _, _, _, _, _, _, rfl, HF.out⟩
    | 6, _, h0, hall =>
      obtain rfl : v5 = .bool false := F.f 5 (hall 5 (by decide +kernel))
      obtain ⟨y0, y1, y2⟩ := bx3 (HX.out.below (below_2 HB5.out F.bel))
      have HF := Lib.hid (F.step FP.mono h0 (show 6 < 26 by decide) (Below.refl _ _) (x := .agg #[.string p.name, .slice a1 p.params.length c1, .slice a2 p.body.length c2]) rfl)
      clear F hall h0
      refine wpOp_step (by rfl) (fun K' hK => ?_); have HKk := Lib.hid hK; clear hK; go_simp
      exact HKk.out _ _ ⟨_, _, _, _, _, _, _, _, _, _, _, _, _, _, _, _, _, _, _, _, _, _, _, _, _, _, rfl, HF.out⟩
    | 7, _, h0, hall =>
      obtain rfl : v5 = .bool false := F.f 5 (hall 5 (by decide +kernel))
      obtain rfl : v6 = .agg #[.string p.name, .slice a1 p.params.length c1, .slice a2 p.body.length c2] := F.f 6 (hall 6 (by decide +kernel))
      have HC := Lib.hid (HK1.out w' (HT.out.below (below_2 HB5.out F.bel)) (HK.out.below (below_2 HB5.out F.bel)))
      have HF := Lib.hid (fun w'' hb x hx => F.step FP.mono h0 (show 7 < 26 by decide) (w' := w'') hb (x := x) hx)
      clear F hall h0
      refine wpOp_step (by rfl) (fun K' hK => ?_); have HKk := Lib.hid hK; clear hK; go_simp
      go_at_call 14
      refine HC.out.mono ?_; rintro e' w8 ⟨rfl, hb5⟩
      have HF5 := Lib.hid (HF.out w8 hb5 _ (show PC.holds (.eq (.bool kt)) (.bool kt) w8 from rfl))
      exact HKk.out _ _ ⟨_, _, _, _, _, _, _, _, _, _, _, _, _, _, _, _, _, _, _, _, _, _, _, _, _, _, rfl, HF5.out⟩
    | 8, _, h0, hall =>
      obtain rfl : v5 = .bool false := F.f 5 (hall 5 (by decide +kernel))
      obtain ⟨y0, y1, y2⟩ := bx3 (HQ5.out.below F.bel)
      have HF := Lib.hid (F.step FP.mono h0 (show 8 < 26 by decide) (Below.refl _ _) (x := .agg #[.string q.name, .slice p1 q.params.length q1, .slice p2 q.body.length q2]) rfl)
      clear F hall h0
      refine wpOp_step (by rfl) (fun K' hK => ?_); have HKk := Lib.hid hK; clear hK; go_simp
      exact HKk.out _ _ ⟨_, _, _, _, _, _, _, _, _, _, _, _, _, _, _, _, _, _, _, _, _, _, _, _, _, _, rfl, HF.out⟩
    | 9, _, h0, hall =>
      obtain rfl : v5 = .bool false := F.f 5 (hall 5 (by decide +kernel))
      obtain rfl : v8 = .agg #[.string q.name, .slice p1 q.params.length q1, .slice p2 q.body.length q2] := F.f 8 (hall 8 (by decide +kernel))
      have HC := Lib.hid (HK2.out w' (HT.out.below (below_2 HB5.out F.bel)) (HKq5.out.below F.bel))
      have HF := Lib.hid (fun w'' hb x hx => F.step FP.mono h0 (show 9 < 26 by decide) (w' := w'') hb (x := x) hx)
      clear F hall h0
      refine wpOp_step (by rfl) (fun K' hK => ?_); have HKk := Lib.hid hK; clear hK; go_simp
      go_at_call 14
      refine HC.out.mono ?_; rintro e' w8 ⟨rfl, hb5⟩
      have HF5 := Lib.hid (HF.out w8 hb5 _ (show PC.holds (.eq (.bool kt)) (.bool kt) w8 from rfl))
      exact HKk.out _ _ ⟨_, _, _, _, _, _, _, _, _, _, _, _, _, _, _, _, _, _, _, _, _, _, _, _, _, _, rfl, HF5.out⟩
    | 10, _, h0, hall =>
      obtain rfl : v5 = .bool false := F.f 5 (hall 5 (by decide +kernel))
      obtain rfl : v7 = .bool kt := F.f 7 (hall 7 (by decide +kernel))
      obtain rfl : v9 = .bool kt := F.f 9 (hall 9 (by decide +kernel))
      have HF := Lib.hid (F.step FP.mono h0 (show 10 < 26 by decide) (Below.refl _ _) (x := .bool false) rfl)
      clear F hall h0
      refine wpOp_step (by rfl) (fun K' hK => ?_); have HKk := Lib.hid hK; clear hK; go_simp
      exact HKk.out _ _ ⟨_, _, _, _, _, _, _, _, _, _, _, _, _, _, _, _, _, _, _, _, _, _, _, _, _, _, rfl, HF.out⟩
    | 11, _, h0, hall =>
      obtain rfl : v5 = .bool false := F.f 5 (hall 5 (by decide +kernel))
      obtain rfl : v10 = .bool false := F.f 10 (hall 10 (by decide +kernel))
      have HF := Lib.hid (F.step FP.mono h0 (show 11 < 26 by decide) (Below.refl _ _) (x := .bool false) rfl)
      clear F hall h0
      refine wpOp_step (by rfl) (fun K' hK => ?_); have HKk := Lib.hid hK; clear hK; go_simp
      exact HKk.out _ _ ⟨_, _, _, _, _, _, _, _, _, _, _, _, _, _, _, _, _, _, _, _, _, _, _, _, _, _, rfl, HF.out⟩
    | 12, _, h0, hall =>
      obtain rfl : v11 = .bool false := F.f 11 (hall 11 (by decide +kernel))
      have HF := Lib.hid (F.step FP.mono h0 (show 12 < 26 by decide) (Below.refl _ _) (x := .bool false) rfl)
      clear F hall h0
      refine wpOp_step (by rfl) (fun K' hK => ?_); have HKk := Lib.hid hK; clear hK; go_simp
      exact HKk.out _ _ ⟨_, _, _, _, _, _, _, _, _, _, _, _, _, _, _, _, _, _, _, _, _, _, _, _, _, _, rfl, HF.out⟩
    | 13, _, h0, hall =>
      obtain rfl : v12 = .bool false := F.f 12 (hall 12 (by decide +kernel))
      obtain ⟨y0, y1, y2⟩ := bx3 (HX.out.below (below_2 HB5.out F.bel))
      have HF := Lib.hid (F.step FP.mono h0 (show 13 < 26 by decide) (Below.refl _ _) (x := .agg #[.string p.name, .slice a1 p.params.length c1, .slice a2 p.body.length c2]) rfl)
      clear F hall h0
      refine wpOp_step (by rfl) (fun K' hK => ?_); have HKk := Lib.hid hK; clear hK; go_simp
      exact HKk.out _ _ ⟨_, _, _, _, _, _, _, _, _, _, _, _, _, _, _, _, _, _, _, _, _, _, _, _, _, _, rfl, HF.out⟩
    | 14, _, h0, hall =>
      obtain rfl : v12 = .bool false := F.f 12 (hall 12 (by decide +kernel))
      obtain rfl : v13 = .agg #[.string p.name, .slice a1 p.params.length c1, .slice a2 p.body.length c2] := F.f 13 (hall 13 (by decide +kernel))
      have HC := Lib.hid (HC1.out w' (HT.out.below (below_2 HB5.out F.bel)) (HK.out.below (below_2 HB5.out F.bel)))
      have HF := Lib.hid (fun w'' hb x hx => F.step FP.mono h0 (show 14 < 26 by decide) (w' := w'') hb (x := x) hx)
      clear F hall h0
      refine wpOp_step (by rfl) (fun K' hK => ?_); have HKk := Lib.hid hK; clear hK; go_simp
      go_at_call 16
      refine HC.out.mono ?_; rintro e' w8 ⟨rfl, hb5⟩
      have HF5 := Lib.hid (HF.out w8 hb5 _ (show PC.holds (.eq (.bool ct)) (.bool ct) w8 from rfl))
      exact HKk.out _ _ ⟨_, _, _, _, _, _, _, _, _, _, _, _, _, _, _, _, _, _, _, _, _, _, _, _, _, _, rfl, HF5.out⟩
    | 15, _, h0, hall =>
      obtain rfl : v12 = .bool false := F.f 12 (hall 12 (by decide +kernel))
      obtain ⟨y0, y1, y2⟩ := bx3 (HQ5.out.below F.bel)
      have HF := Lib.hid (F.step FP.mono h0 (show 15 < 26 by decide) (Below.refl _ _) (x := .agg #[.string q.name, .slice p1 q.params.length q1, .slice p2 q.body.length q2]) rfl)
      clear F hall h0
      refine wpOp_step (by rfl) (fun K' hK => ?_); have HKk := Lib.hid hK; clear hK; go_simp
      exact HKk.out _ _ ⟨_, _, _, _, _, _, _, _, _, _, _, _, _, _, _, _, _, _, _, _, _, _, _, _, _, _, rfl, HF.out⟩
    | 16, _, h0, hall =>
      obtain rfl : v12 = .bool false := F.f 12 (hall 12 (by decide +kernel))
      obtain rfl : v15 = .agg #[.string q.name, .slice p1 q.params.length q1, .slice p2 q.body.length q2] := F.f 15 (hall 15 (by decide +kernel))
      have HC := Lib.hid (HC2.out w' (HT.out.below (below_2 HB5.out F.bel)) (HKq5.out.below F.bel))
      have HF := Lib.hid (fun w'' hb x hx => F.step FP.mono h0 (show 16 < 26 by decide) (w' := w'') hb (x := x) hx)
      clear F hall h0
      refine wpOp_step (by rfl) (fun K' hK => ?_); have HKk := Lib.hid hK; clear hK; go_simp
      go_at_call 16
      refine HC.out.mono ?_; rintro e' w8 ⟨rfl, hb5⟩
      have HF5 := Lib.hid (HF.out w8 hb5 _ (show PC.holds (.eq (.bool ct)) (.bool ct) w8 from rfl))
      exact HKk.out _ _ ⟨_, _, _, _, _, _, _, _, _, _, _, _, _, _, _, _, _, _, _, _, _, _, _, _, _, _, rfl, HF5.out⟩
    | 17, _, h0, hall =>
      obtain rfl : v12 = .bool false := F.f 12 (hall 12 (by decide +kernel))
      obtain rfl : v14 = .bool ct := F.f 14 (hall 14 (by decide +kernel))
      obtain rfl : v16 = .bool ct := F.f 16 (hall 16 (by decide +kernel))
      have HF := Lib.hid (F.step FP.mono h0 (show 17 < 26 by decide) (Below.refl _ _) (x := .bool false) rfl)
      clear F hall h0
      refine wpOp_step (by rfl) (fun K' hK => ?_); have HKk := Lib.hid hK; clear hK; go_simp
      exact HKk.out _ _ ⟨_, _, _, _, _, _, _, _, _, _, _, _, _, _, _, _, _, _, _, _, _, _, _, _, _, _, rfl, HF.out⟩
    | 18, _, h0, hall =>
      obtain rfl : v12 = .bool false := F.f 12 (hall 12 (by decide +kernel))
      obtain rfl : v17 = .bool false := F.f 17 (hall 17 (by decide +kernel))
      have HF := Lib.hid (F.step FP.mono h0 (show 18 < 26 by decide) (Below.refl _ _) (x := .bool false) rfl)
      clear F hall h0
      refine wpOp_step (by rfl) (fun K' hK => ?_); have HKk := Lib.hid hK; clear hK; go_simp
      exact HKk.out _ _ ⟨_, _, _, _, _, _, _, _, _, _, _, _, _, _, _, _, _, _, _, _, _, _, _, _, _, _, rfl, HF.out⟩
    | 19, _, h0, hall =>
      obtain rfl : v18 = .bool false := F.f 18 (hall 18 (by decide +kernel))
      have HF := Lib.hid (F.step FP.mono h0 (show 19 < 26 by decide) (Below.refl _ _) (x := .bool false) rfl)
      clear F hall h0
      refine wpOp_step (by rfl) (fun K' hK => ?_); have HKk := Lib.hid hK; clear hK; go_simp
      exact HKk.out _ _ ⟨_, _, _, _, _, _, _, _, _, _, _, _, _, _, _, _, _, _, _, _, _, _, _, _, _, _, rfl, HF.out⟩
    | 20, _, h0, hall =>
      obtain rfl : v19 = .bool false := F.f 19 (hall 19 (by decide +kernel))
      obtain ⟨y0, y1, y2⟩ := bx3 (HX.out.below (below_2 HB5.out F.bel))
      have HF := Lib.hid (F.step FP.mono h0 (show 20 < 26 by decide) (Below.refl _ _) (x := .agg #[.string p.name, .slice a1 p.params.length c1, .slice a2 p.body.length c2]) rfl)
      clear F hall h0
      refine wpOp_step (by rfl) (fun K' hK => ?_); have HKk := Lib.hid hK; clear hK; go_simp
      exact HKk.out _ _ ⟨_, _, _, _, _, _, _, _, _, _, _, _, _, _, _, _, _, _, _, _, _, _, _, _, _, _, rfl, HF.out⟩
    | 21, _, h0, hall =>
      obtain rfl : v19 = .bool false := F.f 19 (hall 19 (by decide +kernel))
      obtain rfl : v20 = .agg #[.string p.name, .slice a1 p.params.length c1, .slice a2 p.body.length c2] := F.f 20 (hall 20 (by decide +kernel))
      have HC := Lib.hid (HI1.out w' (HT.out.below (below_2 HB5.out F.bel)) (HK.out.below (below_2 HB5.out F.bel)))
      have HF := Lib.hid (fun w'' hb x hx => F.step FP.mono h0 (show 21 < 26 by decide) (w' := w'') hb (x := x) hx)
      clear F hall h0
      refine wpOp_step (by rfl) (fun K' hK => ?_); have HKk := Lib.hid hK; clear hK; go_simp
      go_at_call 18
      refine HC.out.mono ?_; rintro e' w8 ⟨rfl, hb5⟩
      have HF5 := Lib.hid (HF.out w8 hb5 _ (show PC.holds (.eq (.bool it)) (.bool it) w8 from rfl))
      exact HKk.out _ _ ⟨_, _, _, _, _, _, _, _, _, _, _, _, _, _, _, _, _, _, _, _, _, _, _, _, _, _, rfl, HF5.out⟩
    | 22, _, h0, hall =>
      obtain rfl : v19 = .bool false := F.f 19 (hall 19 (by decide +kernel))
      obtain ⟨y0, y1, y2⟩ := bx3 (HQ5.out.below F.bel)
      have HF := Lib.hid (F.step FP.mono h0 (show 22 < 26 by decide) (Below.refl _ _) (x := .agg #[.string q.name, .slice p1 q.params.length q1, .slice p2 q.body.length q2]) rfl)
      clear F hall h0
      refine wpOp_step (by rfl) (fun K' hK => ?_); have HKk := Lib.hid hK; clear hK; go_simp
      exact HKk.out _ _ ⟨_, _, _, _, _, _, _, _, _, _, _, _, _, _, _, _, _, _, _, _, _, _, _, _, _, _, rfl, HF.out⟩
    | 23, _, h0, hall =>
      obtain rfl : v19 = .bool false := F.f 19 (hall 19 (by decide +kernel))
      obtain rfl : v22 = .agg #[.string q.name, .slice p1 q.params.length q1, .slice p2 q.body.length q2] := F.f 22 (hall 22 (by decide +kernel))
      have HC := Lib.hid (HI2.out w' (HT.out.below (below_2 HB5.out F.bel)) (HKq5.out.below F.bel))
      have HF := Lib.hid (fun w'' hb x hx => F.step FP.mono h0 (show 23 < 26 by decide) (w' := w'') hb (x := x) hx)
      clear F hall h0
      refine wpOp_step (by rfl) (fun K' hK => ?_); have HKk := Lib.hid hK; clear hK; go_simp
      go_at_call 18
      refine HC.out.mono ?_; rintro e' w8 ⟨rfl, hb5⟩
      have HF5 := Lib.hid (HF.out w8 hb5 _ (show PC.holds (.eq (.bool it)) (.bool it) w8 from rfl))
      exact HKk.out _ _ ⟨_, _, _, _, _, _, _, _, _, _, _, _, _, _, _, _, _, _, _, _, _, _, _, _, _, _, rfl, HF5.out⟩
    | 24, _, h0, hall =>
      obtain rfl : v19 = .bool false := F.f 19 (hall 19 (by decide +kernel))
      obtain rfl : v21 = .bool it := F.f 21 (hall 21 (by decide +kernel))
      obtain rfl : v23 = .bool it := F.f 23 (hall 23 (by decide +kernel))
      have HF := Lib.hid (F.step FP.mono h0 (show 24 < 26 by decide) (Below.refl _ _) (x := .bool false) rfl)
      clear F hall h0
      refine wpOp_step (by rfl) (fun K' hK => ?_); have HKk := Lib.hid hK; clear hK; go_simp
      exact HKk.out _ _ ⟨_, _, _, _, _, _, _, _, _, _, _, _, _, _, _, _, _, _, _, _, _, _, _, _, _, _, rfl, HF.out⟩
    | 25, _, h0, hall =>
      obtain rfl : v19 = .bool false := F.f 19 (hall 19 (by decide +kernel))
      obtain rfl : v24 = .bool false := F.f 24 (hall 24 (by decide +kernel))
      have HF := Lib.hid (F.step FP.mono h0 (show 25 < 26 by decide) (Below.refl _ _) (x := .bool false) rfl)
      clear F hall h0
      refine wpOp_step (by rfl) (fun K' hK => ?_); have HKk := Lib.hid hK; clear hK; go_simp
      exact HKk.out _ _ ⟨_, _, _, _, _, _, _, _, _, _, _, _, _, _, _, _, _, _, _, _, _, _, _, _, _, _, rfl, HF.out⟩
    | i + 26, hi, _, _ => exact absurd hi (by show ¬ (i + 26 < 26); omega)
  rintro l9 a w6 ⟨rb0, rb1, rb2, rb3, rb4, rb5, rb6, rb7, rb8, rb9, rb10, rb11, rb12, rb13, rb14, rb15, rb16, rb17, rb18, rb19, rb20, rb21, rb22, rb23, rb24, rb25, rfl, F⟩ hall
  obtain rfl : rb25 = .bool false := F.f 25 (hall 25 (by decide))
  have HB6 := Lib.hid (below_2 HB5.out F.bel)
  have HSA6 := Lib.hid (HSA.out.below F.bel)
  have HSB6 := Lib.hid (HSB.out.below F.bel)
  have hrl : rn ≤ 2000 := by rw [← HRN.out]; exact hln.2
  clear F hall HK1 HK2 HC1 HC2 HI1 HI2 HSA HSB HB5 HQ5 HKq5
  go_wp2_with fail
  go_loopw [11] (fun s11 wr => ∃ k : Nat, k ≤ rn ∧ s11 = .int .i64 k ∧ Hid (Below w6.heap.size w6 wr)) (fun s11 _ => rn - (intOf s11).toNat)
  case atStart => exact ⟨0, Nat.zero_le _, rfl, Below.refl _ _⟩
  case round =>
    obtain ⟨k, hk, rfl, HBr⟩ := hrel
    by_cases hlt : k < rn
    · have hlx : k < R.length := by rw [HRN.out]; exact hlt
      have hly : k < (R.map (A.swap f t)).length := by rw [List.length_map]; exact hlx
      obtain ⟨b3, i3, ha, hcc⟩ := (HSA6.out.below HBr.out).open hlx
      obtain ⟨b4, i4, hb, hcd⟩ := (HSB6.out.below HBr.out).open hly
      have f0 := hcc k hlx
      have f1 := hcd k hly
      rw [List.getElem_map] at f1
      have HBd := Lib.hid (below_2 HBr.out (L.below_drew wr))
      generalize R[k] = x at f0 f1
      subst ha hb
      clear hcc hcd
      by_cases hxf : x = f
      · have hsw : A.swap f t x = t := by unfold A.swap; rw [if_pos hxf]
        rw [hsw] at f1
        subst hxf
        have n1 : (t.toList == x.toList) = false := by rw [A.bytes_dec]; exact decide_eq_false HNE.out
        clear hsw
        go_wp2_with fail
        go_region
        go_wp2_with fail
        go_roundw
        case rel => exact ⟨k + 1, by omega, by go_num, HBd.out⟩
        case measure => simp [intOf]; omega
      · have hsw : A.swap f t x = x := by unfold A.swap; rw [if_neg hxf]
        rw [hsw] at f1
        have n2 : (x.toList == f.toList) = false := by rw [A.bytes_dec]; exact decide_eq_false hxf
        clear hsw hxf
        go_wp2_with fail
        go_region
        go_wp2_with fail
        go_roundw
        case rel => exact ⟨k + 1, by omega, by go_num, HBd.out⟩
        case measure => simp [intOf]; omega
    · have HB7 := Lib.hid (below_2 HB6.out HBr.out)
      go_wp2_with fail
      refine (HWk.out _ HB7.out).mono ?_; rintro e' w8 ⟨rfl, hb8⟩
      have HB8 := Lib.hid hb8
      clear hb8
      go_wp2_with fail
      go_ret
      exact ⟨rfl, HB8.out⟩
end Go.Proofs.YtnelpgeiioflmaaGreatDoor.F
