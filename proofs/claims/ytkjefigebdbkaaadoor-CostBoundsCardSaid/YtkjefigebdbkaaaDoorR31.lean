/-
  Declarations of texts that lie merged: what further laws need of QRA, QRB, QK, QL, QM, QBase.
-/
import Derived.Test.YtkjefigebdbkaaaDoorP31
import Derived.Test.YtkjefigebdbkaaaDoorM22
import Derived.Test.YtkjefigebdbkaaaDoorSYCBase
import Derived.BigRegion
import Derived.OpenShut
namespace Go.Proofs.YtkjefigebdbkaaaDoor.Q
open Go.RowKit
open A (Ex St Bx exV exO exV_mk exO_mk okE okEs)
open L (below_2 below_box ret_bool ret_int)
open N (isR)
theorem rcut_any (n : Int) (w : World) : Calls Tryd.prog 62 #[.int .i64 n] w fun e w' => e = .returned (.int .i64 (min n 16385)) ∧ w = w' := by
  go_enter Tryd.func62, Tryd.ntmps62
  go_wp2_with fail
  go_ret
  exact ⟨rfl, rfl⟩
theorem rcut_in (n : Nat) (h : n ≤ 16385) (w : World) : Calls Tryd.prog 62 #[.int .i64 (n : Int)] w fun e w' => e = .returned (.int .i64 (n : Int)) ∧ w = w' := by
  have := rcut_any n w
  rwa [show min (n : Int) 16385 = (n : Int) by omega] at this
def QRG (e : Ex) : Prop := ∀ (a : Option Addr) (c : Nat) (w : World), okE e → gE e ≤ 16000 → A.Kids w a e.args → Calls Tryd.prog 63 #[exV e a c] w fun e' w' => e' = .returned (.int .i64 (gE e : Int)) ∧ Below w.heap.size w w'
set_option maxHeartbeats 8000000 in
set_option maxRecDepth 100000 in
theorem rgets_any : ∀ e, QRG e := by
  refine A.Ex.ind (P := QRG) ?_
  intro o n s l ih a c w hok hsz hK
  have hK' : A.Kids w a l := hK
  have hb := below_box w (exO (.mk o n s l) a c)
  have hbx := Bx.new w #[.int .i64 o, .int .i64 n, .string s, .slice a l.length c] 46
  have hokl : ∀ x ∈ l, okE x := by
    rw [okE] at hok
    exact fun x hx => by
      obtain ⟨j, hj, rfl⟩ := List.getElem_of_mem hx
      exact A.okEs.get hok.2.2.2.2 j hj
  have hll : l.length ≤ 1000000000000000 := by rw [okE] at hok; exact hok.2.2.2.1
  have hg1 : gE (.mk o n s l) = (if isR o = true then 1 else 0) + gEs l := by rw [gE]
  have hgl : gEs l ≤ 16000 := by rw [hg1] at hsz; omega
  have HIH : Hid (∀ (k : Nat) (h : k < l.length) a2 c2 w', A.Kids w' a2 l[k].args → Calls Tryd.prog 63 #[exV l[k] a2 c2] w' fun e' w'' => e' = .returned (.int .i64 (gE l[k] : Int)) ∧ Below w'.heap.size w' w'') :=
    fun k h a2 c2 w' h2 => ih k h a2 c2 w' (hokl _ (List.getElem_mem h)) (by have := gEs_get h; omega) h2
  have HGL := Lib.hid hgl
  simp only [exV_mk]
  obtain ⟨R, hR⟩ : ∃ R, gE (.mk o n s l) = R := ⟨_, rfl⟩
  rw [hR] at hg1 ⊢
  have HB := Lib.hid hb
  have HX := Lib.hid hbx
  have HK := Lib.hid (hK'.below hb)
  simp only [exO_mk] at HX HB HK
  obtain ⟨g, hg⟩ : ∃ g, l.length = g := ⟨_, rfl⟩
  have HL := Lib.hid hg
  rw [hg] at hll HX HB HK ⊢
  have x0 := HX.out.cell 0
  have x3 := HX.out.cell 3
  simp only [List.getElem?_toArray, List.getElem?_cons_zero, List.getElem?_cons_succ] at x0 x3
  have HR := Lib.hid hg1
  clear hg hb hbx hokl hK hK' hok ih hsz hgl hg1 hR
  by_cases h22 : o = 22
  · subst h22
    have HR2 : Hid (R = 1 + gEs l) := HR.out
    clear HR
    go_enter Tryd.func63, Tryd.ntmps63
    go_wp2_with fail
    clear x0 x3
    go_loopw [3, 4] (fun s3 s4 wr => ∃ (k x : Nat), k ≤ g ∧ s4 = .int .i64 k ∧ s3 = .int .i64 x ∧ x ≤ 16001 ∧ Hid (x = 1 + gEs (l.take k)) ∧ Hid (Below (w.alloc (.cells #[.int .i64 22, .int .i64 n, .string s, .slice a g c] 46)).heap.size (w.alloc (.cells #[.int .i64 22, .int .i64 n, .string s, .slice a g c] 46)) wr)) (fun _ s4 _ => g - (intOf s4).toNat)
    case atStart => exact ⟨0, 1, Nat.zero_le _, rfl, rfl, by omega, by show _ = _; rw [List.take_zero, gEs], Below.refl _ _⟩
    case round =>
      obtain ⟨k, x, hk, rfl, rfl, hxb, HX2, HBr⟩ := hrel
      have z3 := (HX.out.below HBr.out).cell 3
      simp only [List.getElem?_toArray, List.getElem?_cons_zero, List.getElem?_cons_succ] at z3
      by_cases hlt : k < g
      · have hlx : k < l.length := by rw [HL.out]; exact hlt
        obtain ⟨b2, i2, rfl, hat⟩ := (HK.out.below HBr.out).open hlx
        obtain ⟨d0, d1, d2, a2, cc, d3, hk2⟩ := hat.open
        have HCC := Lib.hid (HIH.out k hlx a2 cc _ hk2)
        have hbd := gEs_get hlx
        have HT : Hid (gEs (l.take (k + 1)) = gEs (l.take k) + gE l[k]) := gEs_take hlx
        have hxy : x + gE l[k] ≤ 16001 := by have h1 := HX2.out; have h2 := HGL.out; omega
        clear hat hk2 hbd
        unfold exV at HCC
        generalize gE l[k] = y at HCC HT hxy
        generalize l[k].args.length = m2 at d3 HCC
        generalize l[k].op = o2 at d0 HCC
        generalize l[k].n = n2 at d1 HCC
        generalize l[k].s = s2 at d2 HCC
        have HCu := Lib.hid (fun w' => rcut_in (x + y) (by omega) w')
        have HSum : Hid ((x : Int) + (y : Int) = ((x + y : Nat) : Int)) := Int.natCast_add x y |>.symm
        go_wp2_with fail
        refine HCC.out.mono ?_; rintro e w2 ⟨rfl, hb2⟩
        have HB3 := Lib.hid (below_2 HBr.out hb2)
        have HX3 : Hid (x + y = 1 + gEs (l.take (k + 1))) := by show _ = _; rw [HT.out, HX2.out]; omega
        clear hb2 d0 d1 d2 d3 z3
        go_wp2_with fail
        rw [HSum.out]
        refine (HCu.out _).mono ?_; rintro e w3 ⟨rfl, rfl⟩
        go_wp2_with fail
        go_roundw
        case rel => exact ⟨k + 1, x + y, by omega, by go_num, by go_num, hxy, HX3.out, HB3.out⟩
        case measure => simp [intOf]; omega
      · have HV : Hid (x = R) := by
          have h := HX2.out
          rw [List.take_of_length_le (by rw [HL.out]; omega)] at h
          show _ = _
          rw [h, HR2.out]
        have HBW := Lib.hid (below_2 HB.out HBr.out)
        go_wp2_with fail
        go_ret
        exact ⟨ret_int (by rw [HV.out]), HBW.out⟩
  have b22 : (o == 22) = false := beq_eq_false_iff_ne.2 h22
  by_cases h23 : o = 23
  · subst h23
    have HR2 : Hid (R = 1 + gEs l) := HR.out
    clear HR h22 b22
    go_enter Tryd.func63, Tryd.ntmps63
    go_wp2_with fail
    clear x0 x3
    go_loopw [3, 4] (fun s3 s4 wr => ∃ (k x : Nat), k ≤ g ∧ s4 = .int .i64 k ∧ s3 = .int .i64 x ∧ x ≤ 16001 ∧ Hid (x = 1 + gEs (l.take k)) ∧ Hid (Below (w.alloc (.cells #[.int .i64 23, .int .i64 n, .string s, .slice a g c] 46)).heap.size (w.alloc (.cells #[.int .i64 23, .int .i64 n, .string s, .slice a g c] 46)) wr)) (fun _ s4 _ => g - (intOf s4).toNat)
    case atStart => exact ⟨0, 1, Nat.zero_le _, rfl, rfl, by omega, by show _ = _; rw [List.take_zero, gEs], Below.refl _ _⟩
    case round =>
      obtain ⟨k, x, hk, rfl, rfl, hxb, HX2, HBr⟩ := hrel
      have z3 := (HX.out.below HBr.out).cell 3
      simp only [List.getElem?_toArray, List.getElem?_cons_zero, List.getElem?_cons_succ] at z3
      by_cases hlt : k < g
      · have hlx : k < l.length := by rw [HL.out]; exact hlt
        obtain ⟨b2, i2, rfl, hat⟩ := (HK.out.below HBr.out).open hlx
        obtain ⟨d0, d1, d2, a2, cc, d3, hk2⟩ := hat.open
        have HCC := Lib.hid (HIH.out k hlx a2 cc _ hk2)
        have hbd := gEs_get hlx
        have HT : Hid (gEs (l.take (k + 1)) = gEs (l.take k) + gE l[k]) := gEs_take hlx
        have hxy : x + gE l[k] ≤ 16001 := by have h1 := HX2.out; have h2 := HGL.out; omega
        clear hat hk2 hbd
        unfold exV at HCC
        generalize gE l[k] = y at HCC HT hxy
        generalize l[k].args.length = m2 at d3 HCC
        generalize l[k].op = o2 at d0 HCC
        generalize l[k].n = n2 at d1 HCC
        generalize l[k].s = s2 at d2 HCC
        have HCu := Lib.hid (fun w' => rcut_in (x + y) (by omega) w')
        have HSum : Hid ((x : Int) + (y : Int) = ((x + y : Nat) : Int)) := Int.natCast_add x y |>.symm
        go_wp2_with fail
        refine HCC.out.mono ?_; rintro e w2 ⟨rfl, hb2⟩
        have HB3 := Lib.hid (below_2 HBr.out hb2)
        have HX3 : Hid (x + y = 1 + gEs (l.take (k + 1))) := by show _ = _; rw [HT.out, HX2.out]; omega
        clear hb2 d0 d1 d2 d3 z3
        go_wp2_with fail
        rw [HSum.out]
        refine (HCu.out _).mono ?_; rintro e w3 ⟨rfl, rfl⟩
        go_wp2_with fail
        go_roundw
        case rel => exact ⟨k + 1, x + y, by omega, by go_num, by go_num, hxy, HX3.out, HB3.out⟩
        case measure => simp [intOf]; omega
      · have HV : Hid (x = R) := by
          have h := HX2.out
          rw [List.take_of_length_le (by rw [HL.out]; omega)] at h
          show _ = _
          rw [h, HR2.out]
        have HBW := Lib.hid (below_2 HB.out HBr.out)
        go_wp2_with fail
        go_ret
        exact ⟨ret_int (by rw [HV.out]), HBW.out⟩
  have b23 : (o == 23) = false := beq_eq_false_iff_ne.2 h23
  by_cases h24 : o = 24
  · subst h24
    have HR2 : Hid (R = 1 + gEs l) := HR.out
    clear HR h22 b22 h23 b23
    go_enter Tryd.func63, Tryd.ntmps63
    go_wp2_with fail
    clear x0 x3
    go_loopw [3, 4] (fun s3 s4 wr => ∃ (k x : Nat), k ≤ g ∧ s4 = .int .i64 k ∧ s3 = .int .i64 x ∧ x ≤ 16001 ∧ Hid (x = 1 + gEs (l.take k)) ∧ Hid (Below (w.alloc (.cells #[.int .i64 24, .int .i64 n, .string s, .slice a g c] 46)).heap.size (w.alloc (.cells #[.int .i64 24, .int .i64 n, .string s, .slice a g c] 46)) wr)) (fun _ s4 _ => g - (intOf s4).toNat)
    case atStart => exact ⟨0, 1, Nat.zero_le _, rfl, rfl, by omega, by show _ = _; rw [List.take_zero, gEs], Below.refl _ _⟩
    case round =>
      obtain ⟨k, x, hk, rfl, rfl, hxb, HX2, HBr⟩ := hrel
      have z3 := (HX.out.below HBr.out).cell 3
      simp only [List.getElem?_toArray, List.getElem?_cons_zero, List.getElem?_cons_succ] at z3
      by_cases hlt : k < g
      · have hlx : k < l.length := by rw [HL.out]; exact hlt
        obtain ⟨b2, i2, rfl, hat⟩ := (HK.out.below HBr.out).open hlx
        obtain ⟨d0, d1, d2, a2, cc, d3, hk2⟩ := hat.open
        have HCC := Lib.hid (HIH.out k hlx a2 cc _ hk2)
        have hbd := gEs_get hlx
        have HT : Hid (gEs (l.take (k + 1)) = gEs (l.take k) + gE l[k]) := gEs_take hlx
        have hxy : x + gE l[k] ≤ 16001 := by have h1 := HX2.out; have h2 := HGL.out; omega
        clear hat hk2 hbd
        unfold exV at HCC
        generalize gE l[k] = y at HCC HT hxy
        generalize l[k].args.length = m2 at d3 HCC
        generalize l[k].op = o2 at d0 HCC
        generalize l[k].n = n2 at d1 HCC
        generalize l[k].s = s2 at d2 HCC
        have HCu := Lib.hid (fun w' => rcut_in (x + y) (by omega) w')
        have HSum : Hid ((x : Int) + (y : Int) = ((x + y : Nat) : Int)) := Int.natCast_add x y |>.symm
        go_wp2_with fail
        refine HCC.out.mono ?_; rintro e w2 ⟨rfl, hb2⟩
        have HB3 := Lib.hid (below_2 HBr.out hb2)
        have HX3 : Hid (x + y = 1 + gEs (l.take (k + 1))) := by show _ = _; rw [HT.out, HX2.out]; omega
        clear hb2 d0 d1 d2 d3 z3
        go_wp2_with fail
        rw [HSum.out]
        refine (HCu.out _).mono ?_; rintro e w3 ⟨rfl, rfl⟩
        go_wp2_with fail
        go_roundw
        case rel => exact ⟨k + 1, x + y, by omega, by go_num, by go_num, hxy, HX3.out, HB3.out⟩
        case measure => simp [intOf]; omega
      · have HV : Hid (x = R) := by
          have h := HX2.out
          rw [List.take_of_length_le (by rw [HL.out]; omega)] at h
          show _ = _
          rw [h, HR2.out]
        have HBW := Lib.hid (below_2 HB.out HBr.out)
        go_wp2_with fail
        go_ret
        exact ⟨ret_int (by rw [HV.out]), HBW.out⟩
  have b24 : (o == 24) = false := beq_eq_false_iff_ne.2 h24
  have HR2 : Hid (R = 0 + gEs l) := by show _ = _; rw [HR.out, isR_no h22 h23 h24]; rfl
  clear HR h22 h23 h24
  go_enter Tryd.func63, Tryd.ntmps63
  go_wp2_with fail
  clear x0 x3
  go_loopw [3, 4] (fun s3 s4 wr => ∃ (k x : Nat), k ≤ g ∧ s4 = .int .i64 k ∧ s3 = .int .i64 x ∧ x ≤ 16001 ∧ Hid (x = 0 + gEs (l.take k)) ∧ Hid (Below (w.alloc (.cells #[.int .i64 o, .int .i64 n, .string s, .slice a g c] 46)).heap.size (w.alloc (.cells #[.int .i64 o, .int .i64 n, .string s, .slice a g c] 46)) wr)) (fun _ s4 _ => g - (intOf s4).toNat)
  case atStart => exact ⟨0, 0, Nat.zero_le _, rfl, rfl, by omega, by show _ = _; rw [List.take_zero, gEs], Below.refl _ _⟩
  case round =>
    obtain ⟨k, x, hk, rfl, rfl, hxb, HX2, HBr⟩ := hrel
    have z3 := (HX.out.below HBr.out).cell 3
    simp only [List.getElem?_toArray, List.getElem?_cons_zero, List.getElem?_cons_succ] at z3
    by_cases hlt : k < g
    · have hlx : k < l.length := by rw [HL.out]; exact hlt
      obtain ⟨b2, i2, rfl, hat⟩ := (HK.out.below HBr.out).open hlx
      obtain ⟨d0, d1, d2, a2, cc, d3, hk2⟩ := hat.open
      have HCC := Lib.hid (HIH.out k hlx a2 cc _ hk2)
      have hbd := gEs_get hlx
      have HT : Hid (gEs (l.take (k + 1)) = gEs (l.take k) + gE l[k]) := gEs_take hlx
      have hxy : x + gE l[k] ≤ 16001 := by have h1 := HX2.out; have h2 := HGL.out; omega
      clear hat hk2 hbd
      unfold exV at HCC
      generalize gE l[k] = y at HCC HT hxy
      generalize l[k].args.length = m2 at d3 HCC
      generalize l[k].op = o2 at d0 HCC
      generalize l[k].n = n2 at d1 HCC
      generalize l[k].s = s2 at d2 HCC
      have HCu := Lib.hid (fun w' => rcut_in (x + y) (by omega) w')
      have HSum : Hid ((x : Int) + (y : Int) = ((x + y : Nat) : Int)) := Int.natCast_add x y |>.symm
      go_wp2_with fail
      refine HCC.out.mono ?_; rintro e w2 ⟨rfl, hb2⟩
      have HB3 := Lib.hid (below_2 HBr.out hb2)
      have HX3 : Hid (x + y = 0 + gEs (l.take (k + 1))) := by show _ = _; rw [HT.out, HX2.out]; omega
      clear hb2 d0 d1 d2 d3 z3
      go_wp2_with fail
      rw [HSum.out]
      refine (HCu.out _).mono ?_; rintro e w3 ⟨rfl, rfl⟩
      go_wp2_with fail
      go_roundw
      case rel => exact ⟨k + 1, x + y, by omega, by go_num, by go_num, hxy, HX3.out, HB3.out⟩
      case measure => simp [intOf]; omega
    · have HV : Hid (x = R) := by
        have h := HX2.out
        rw [List.take_of_length_le (by rw [HL.out]; omega)] at h
        show _ = _
        rw [h, HR2.out]
      have HBW := Lib.hid (below_2 HB.out HBr.out)
      go_wp2_with fail
      go_ret
      exact ⟨ret_int (by rw [HV.out]), HBW.out⟩
end Go.Proofs.YtkjefigebdbkaaaDoor.Q
namespace Go.Proofs.YtkjefigebdbkaaaDoor.Q
open Go.RowKit
open A (Ex St Bx exV okE okB okS cE cB cS stC Bodies)
open L (below_2 below_box ret_bool ret_int)
open P (On on_set off_of wp_region_inv2 IS FT deps Closed)
set_option maxHeartbeats 8000000 in
set_option maxRecDepth 100000 in
theorem rown_any (s : St) (a1 : Option Addr) (c1 : Nat) (a2 : Option Addr) (c2 : Nat) (a3 : Option Addr) (c3 : Nat) (a4 : Option Addr) (c4 : Nat) (hok : okS s) (hsz : cS s ≤ 16000) (w : World) (hK : A.StKids w s a1 a2 a3 a4) :
    Calls Tryd.prog 34 #[stC s a1 c1 a2 c2 a3 c3 a4 c4] w fun e' w' => e' = .returned (ctV (ownC s.op s.a s.b)) ∧ Below w.heap.size w w' := by
  have hso := A.okS_open hok
  have hcp := A.cS_parts s
  have hga := gE_cE s.a
  have hgb := gE_cE s.b
  obtain ⟨W1, e1⟩ : ∃ z, z = w.alloc (.cells #[.int .i64 s.op, .string s.name, .int .i64 s.mx, .int .i64 s.a.op, .int .i64 s.a.n, .string s.a.s, .slice a1 s.a.args.length c1, .int .i64 s.b.op, .int .i64 s.b.n, .string s.b.s, .slice a2 s.b.args.length c2, .slice a3 s.body.length c3, .slice a4 s.els.length c4] 48) := ⟨_, rfl⟩
  have bb1 : Below w.heap.size w W1 := by rw [e1]; exact below_box _ _
  have xx1 := Bx.new w #[.int .i64 s.op, .string s.name, .int .i64 s.mx, .int .i64 s.a.op, .int .i64 s.a.n, .string s.a.s, .slice a1 s.a.args.length c1, .int .i64 s.b.op, .int .i64 s.b.n, .string s.b.s, .slice a2 s.b.args.length c2, .slice a3 s.body.length c3, .slice a4 s.els.length c4] 48
  rw [← e1] at xx1
  have s1 : W1.heap.size = w.heap.size + 1 := by rw [e1]; simp
  obtain ⟨W2, e2⟩ : ∃ z, z = W1.alloc (.cells #[.int .i64 0, .int .i64 0, .int .i64 0, .int .i64 0] 35) := ⟨_, rfl⟩
  have bb2 : Below W1.heap.size W1 W2 := by rw [e2]; exact below_box _ _
  have xx2 := Bx.new W1 #[.int .i64 0, .int .i64 0, .int .i64 0, .int .i64 0] 35
  rw [← e2] at xx2
  rw [s1] at xx2
  have HB := Lib.hid (below_2 bb1 bb2)
  have HX := Lib.hid (xx1.below bb2)
  have HZ := Lib.hid xx2
  have HK := Lib.hid (hK.below (below_2 bb1 bb2))
  have HW : Hid ((w.alloc (.cells #[.int .i64 s.op, .string s.name, .int .i64 s.mx, .int .i64 s.a.op, .int .i64 s.a.n, .string s.a.s, .slice a1 s.a.args.length c1, .int .i64 s.b.op, .int .i64 s.b.n, .string s.b.s, .slice a2 s.b.args.length c2, .slice a3 s.body.length c3, .slice a4 s.els.length c4] 48)).alloc (.cells #[.int .i64 0, .int .i64 0, .int .i64 0, .int .i64 0] 35) = W2) := by show _ = _; rw [← e1, ← e2]
  have HGA : Hid (∀ w', Below W2.heap.size W2 w' → Calls Tryd.prog 63 #[exV s.a a1 c1] w' fun e w'' => e = .returned (.int .i64 (gE s.a : Int)) ∧ Below w'.heap.size w' w'') := fun w' hb => rgets_any s.a a1 c1 w' hso.a (by omega) (HK.out.below hb).a
  have HGB : Hid (∀ w', Below W2.heap.size W2 w' → Calls Tryd.prog 63 #[exV s.b a2 c2] w' fun e w'' => e = .returned (.int .i64 (gE s.b : Int)) ∧ Below w'.heap.size w' w'') := fun w' hb => rgets_any s.b a2 c2 w' hso.b (by omega) (HK.out.below hb).b
  have hgab : gE s.a + gE s.b ≤ 16000 := by omega
  obtain ⟨R, hR⟩ : ∃ R, ownC s.op s.a s.b = R := ⟨_, rfl⟩
  have hR1 := hR
  unfold ownC at hR1
  rw [hR]
  have HR := Lib.hid hR1
  have HHS : Hid (W2.heap.size = w.heap.size + 1 + 1) := by show _ = _; rw [e2]; simp [s1]
  clear e1 e2 bb1 bb2 xx1 xx2 s1 hK hok hsz hso hcp hga hgb hR hR1
  unfold exV at HGA HGB
  unfold stC
  generalize gE s.a = ga at *
  generalize gE s.b = gb at *
  obtain ⟨g, hg⟩ : ∃ g, ga + gb = g := ⟨_, rfl⟩
  rw [hg] at HR hgab
  have hsum : (ga : Int) + (gb : Int) = (g : Int) := by omega
  have hw0 : IntKind.i64.wrap (g : Int) = (g : Int) := IntWalk.i64_in _ (by omega)
  have HSum := Lib.hid hsum
  have HW0 := Lib.hid hw0
  have HCu : Hid (∀ w', Calls Tryd.prog 62 #[.int .i64 (g : Int)] w' fun e w'' => e = .returned (.int .i64 (g : Int)) ∧ Below w'.heap.size w' w'') := fun w' => (rcut_in g (by omega) w').mono fun e w'' h => ⟨h.1, h.2 ▸ Below.refl _ _⟩
  clear hg hsum hw0
  go_enter Tryd.func34, Tryd.ntmps34
  go_wp2_with fail
  rw [HW.out]
  go_upto_region 1 with fail
  refine wp_region_inv2 rfl (fun l a w' => ∃ v0 v1 v2 v3 v4 v5 v6 v7 v8 v9 : Value, a = { tmps := #[Value.agg #[.int .i64 s.op, .string s.name, .int .i64 s.mx, .int .i64 s.a.op, .int .i64 s.a.n, .string s.a.s, .slice a1 s.a.args.length c1, .int .i64 s.b.op, .int .i64 s.b.n, .string s.b.s, .slice a2 s.b.args.length c2, .slice a3 s.body.length c3, .slice a4 s.els.length c4], Value.pointer (some { block := w.heap.size, off := 0 }), Value.pointer (some { block := w.heap.size + 1, off := 0 }), v9, v0, v1, v2, v3, v4, v5, v6, v7, v8, undef, undef, undef, undef, undef, undef, undef, undef, undef, undef, undef, undef, undef, undef], defers := [] } ∧ ((¬ On l 10 ∧ IS (FT [some (.pointer (some ⟨w.heap.size, 3, none⟩)), some (.agg #[.int .i64 s.a.op, .int .i64 s.a.n, .string s.a.s, .slice a1 s.a.args.length c1]), some (.int .i64 (ga : Int)), some (.pointer (some ⟨w.heap.size, 7, none⟩)), some (.agg #[.int .i64 s.b.op, .int .i64 s.b.n, .string s.b.s, .slice a2 s.b.args.length c2]), some (.int .i64 (gb : Int)), some (.int .i64 (g : Int)), some (.int .i64 (g : Int)), some (.agg #[.int .i64 1, .int .i64 (g : Int), .int .i64 0, .int .i64 0]), none] 35 #[.int .i64 0, .int .i64 0, .int .i64 0, .int .i64 0] (W2.heap.size)) W2 l w' [v0, v1, v2, v3, v4, v5, v6, v7, v8, v9]) ∨ (On l 10 ∧ ∃ d, v9 = .pointer (some ⟨d, 0, none⟩) ∧ W2.heap.size ≤ d ∧ Bx w' d #[.int .i64 1, .int .i64 (g : Int), .int .i64 0, .int .i64 0] 35 ∧ Below W2.heap.size W2 w'))) (by kernel_rfl) ?_ ?_ ?_
  · intro l hl
    exact ⟨_, _, _, _, _, _, _, _, _, _, rfl, Or.inl ⟨hl 10, IS.start _ _ hl _⟩⟩
  · rintro l a w' ⟨v0, v1, v2, v3, v4, v5, v6, v7, v8, v9, rfl, hF⟩ hcl i hi h0 hall
    match i, hi, h0, hall with
    | 0, _, h0, hall =>
      have hno : ¬ On l 10 := fun z => off_of h0 (hcl 10 (z) 0 (by decide +kernel))
      obtain ⟨hnm, F⟩ := hF.resolve_right (fun z => hno z.1)
      have HNm : Hid (¬ On (l.setIfInBounds 0 true) 10) := fun z => hnm (((on_set h0 10).1 z).resolve_left (by decide))
      clear hF hnm hno
      have HF := Lib.hid (F.step FT.mono h0 (show 0 < 10 by decide) (Below.refl _ _) (x := .pointer (some ⟨w.heap.size, 3, none⟩)) rfl)
      clear F hall h0 hcl
      refine wpOp_step (by rfl) (fun K' hK => ?_)
      have HKk := Lib.hid hK
      clear hK
      go_simp
      exact HKk.out _ _ ⟨_, _, _, _, _, _, _, _, _, _, rfl, Or.inl ⟨HNm.out, HF.out⟩⟩
    | 1, _, h0, hall =>
      have hno : ¬ On l 10 := fun z => off_of h0 (hcl 10 (z) 1 (by decide +kernel))
      obtain ⟨hnm, F⟩ := hF.resolve_right (fun z => hno z.1)
      have HNm : Hid (¬ On (l.setIfInBounds 1 true) 10) := fun z => hnm (((on_set h0 10).1 z).resolve_left (by decide))
      clear hF hnm hno
      obtain rfl : v0 = .pointer (some ⟨w.heap.size, 3, none⟩) := F.f 0 (hall 0 (by decide +kernel))
      have hxx := HX.out.below F.bel
      have q3 := hxx.cell 3
      have q4 := hxx.cell 4
      have q5 := hxx.cell 5
      have q6 := hxx.cell 6
      simp only [List.getElem?_toArray, List.getElem?_cons_zero, List.getElem?_cons_succ] at q3 q4 q5 q6
      clear hxx
      have HF := Lib.hid (F.step FT.mono h0 (show 1 < 10 by decide) (Below.refl _ _) (x := .agg #[.int .i64 s.a.op, .int .i64 s.a.n, .string s.a.s, .slice a1 s.a.args.length c1]) rfl)
      clear F hall h0 hcl
      refine wpOp_step (by rfl) (fun K' hK => ?_)
      have HKk := Lib.hid hK
      clear hK
      go_simp
      exact HKk.out _ _ ⟨_, _, _, _, _, _, _, _, _, _, rfl, Or.inl ⟨HNm.out, HF.out⟩⟩
    | 2, _, h0, hall =>
      have hno : ¬ On l 10 := fun z => off_of h0 (hcl 10 (z) 2 (by decide +kernel))
      obtain ⟨hnm, F⟩ := hF.resolve_right (fun z => hno z.1)
      have HNm : Hid (¬ On (l.setIfInBounds 2 true) 10) := fun z => hnm (((on_set h0 10).1 z).resolve_left (by decide))
      clear hF hnm hno
      obtain rfl : v1 = .agg #[.int .i64 s.a.op, .int .i64 s.a.n, .string s.a.s, .slice a1 s.a.args.length c1] := F.f 1 (hall 1 (by decide +kernel))
      have HC := Lib.hid (HGA.out w' F.bel)
      have HF := Lib.hid (fun w'' hb x hx => F.step FT.mono h0 (show 2 < 10 by decide) (w' := w'') hb (x := x) hx)
      clear F hall h0 hcl
      refine wpOp_step (by rfl) (fun K' hK => ?_)
      have HKk := Lib.hid hK
      clear hK
      go_simp
      go_at_call 63
      refine HC.out.mono ?_; rintro e' w5 ⟨rfl, hb5⟩
      have HF5 := Lib.hid (HF.out w5 hb5 (.int .i64 (ga : Int)) rfl)
      exact HKk.out _ _ ⟨_, _, _, _, _, _, _, _, _, _, rfl, Or.inl ⟨HNm.out, HF5.out⟩⟩
    | 3, _, h0, hall =>
      have hno : ¬ On l 10 := fun z => off_of h0 (hcl 10 (z) 3 (by decide +kernel))
      obtain ⟨hnm, F⟩ := hF.resolve_right (fun z => hno z.1)
      have HNm : Hid (¬ On (l.setIfInBounds 3 true) 10) := fun z => hnm (((on_set h0 10).1 z).resolve_left (by decide))
      clear hF hnm hno
      have HF := Lib.hid (F.step FT.mono h0 (show 3 < 10 by decide) (Below.refl _ _) (x := .pointer (some ⟨w.heap.size, 7, none⟩)) rfl)
      clear F hall h0 hcl
      refine wpOp_step (by rfl) (fun K' hK => ?_)
      have HKk := Lib.hid hK
      clear hK
      go_simp
      exact HKk.out _ _ ⟨_, _, _, _, _, _, _, _, _, _, rfl, Or.inl ⟨HNm.out, HF.out⟩⟩
    | 4, _, h0, hall =>
      have hno : ¬ On l 10 := fun z => off_of h0 (hcl 10 (z) 4 (by decide +kernel))
      obtain ⟨hnm, F⟩ := hF.resolve_right (fun z => hno z.1)
      have HNm : Hid (¬ On (l.setIfInBounds 4 true) 10) := fun z => hnm (((on_set h0 10).1 z).resolve_left (by decide))
      clear hF hnm hno
      obtain rfl : v3 = .pointer (some ⟨w.heap.size, 7, none⟩) := F.f 3 (hall 3 (by decide +kernel))
      have hxx := HX.out.below F.bel
      have q7 := hxx.cell 7
      have q8 := hxx.cell 8
      have q9 := hxx.cell 9
      have q10 := hxx.cell 10
      simp only [List.getElem?_toArray, List.getElem?_cons_zero, List.getElem?_cons_succ] at q7 q8 q9 q10
      clear hxx
      have HF := Lib.hid (F.step FT.mono h0 (show 4 < 10 by decide) (Below.refl _ _) (x := .agg #[.int .i64 s.b.op, .int .i64 s.b.n, .string s.b.s, .slice a2 s.b.args.length c2]) rfl)
      clear F hall h0 hcl
      refine wpOp_step (by rfl) (fun K' hK => ?_)
      have HKk := Lib.hid hK
      clear hK
      go_simp
      exact HKk.out _ _ ⟨_, _, _, _, _, _, _, _, _, _, rfl, Or.inl ⟨HNm.out, HF.out⟩⟩
    | 5, _, h0, hall =>
      have hno : ¬ On l 10 := fun z => off_of h0 (hcl 10 (z) 5 (by decide +kernel))
      obtain ⟨hnm, F⟩ := hF.resolve_right (fun z => hno z.1)
      have HNm : Hid (¬ On (l.setIfInBounds 5 true) 10) := fun z => hnm (((on_set h0 10).1 z).resolve_left (by decide))
      clear hF hnm hno
      obtain rfl : v4 = .agg #[.int .i64 s.b.op, .int .i64 s.b.n, .string s.b.s, .slice a2 s.b.args.length c2] := F.f 4 (hall 4 (by decide +kernel))
      have HC := Lib.hid (HGB.out w' F.bel)
      have HF := Lib.hid (fun w'' hb x hx => F.step FT.mono h0 (show 5 < 10 by decide) (w' := w'') hb (x := x) hx)
      clear F hall h0 hcl
      refine wpOp_step (by rfl) (fun K' hK => ?_)
      have HKk := Lib.hid hK
      clear hK
      go_simp
      go_at_call 63
      refine HC.out.mono ?_; rintro e' w5 ⟨rfl, hb5⟩
      have HF5 := Lib.hid (HF.out w5 hb5 (.int .i64 (gb : Int)) rfl)
      exact HKk.out _ _ ⟨_, _, _, _, _, _, _, _, _, _, rfl, Or.inl ⟨HNm.out, HF5.out⟩⟩
    | 6, _, h0, hall =>
      have hno : ¬ On l 10 := fun z => off_of h0 (hcl 10 (z) 6 (by decide +kernel))
      obtain ⟨hnm, F⟩ := hF.resolve_right (fun z => hno z.1)
      have HNm : Hid (¬ On (l.setIfInBounds 6 true) 10) := fun z => hnm (((on_set h0 10).1 z).resolve_left (by decide))
      clear hF hnm hno
      obtain rfl : v2 = .int .i64 (ga : Int) := F.f 2 (hall 2 (by decide +kernel))
      obtain rfl : v5 = .int .i64 (gb : Int) := F.f 5 (hall 5 (by decide +kernel))
      have hsum := HSum.out
      have hw0 := HW0.out
      have HF := Lib.hid (F.step FT.mono h0 (show 6 < 10 by decide) (Below.refl _ _) (x := .int .i64 (g : Int)) rfl)
      clear F hall h0 hcl
      refine wpOp_step (by rfl) (fun K' hK => ?_)
      have HKk := Lib.hid hK
      clear hK
      go_simp
      exact HKk.out _ _ ⟨_, _, _, _, _, _, _, _, _, _, rfl, Or.inl ⟨HNm.out, HF.out⟩⟩
    | 7, _, h0, hall =>
      have hno : ¬ On l 10 := fun z => off_of h0 (hcl 10 (z) 7 (by decide +kernel))
      obtain ⟨hnm, F⟩ := hF.resolve_right (fun z => hno z.1)
      have HNm : Hid (¬ On (l.setIfInBounds 7 true) 10) := fun z => hnm (((on_set h0 10).1 z).resolve_left (by decide))
      clear hF hnm hno
      obtain rfl : v6 = .int .i64 (g : Int) := F.f 6 (hall 6 (by decide +kernel))
      have HC := Lib.hid (HCu.out w')
      have HF := Lib.hid (fun w'' hb x hx => F.step FT.mono h0 (show 7 < 10 by decide) (w' := w'') hb (x := x) hx)
      clear F hall h0 hcl
      refine wpOp_step (by rfl) (fun K' hK => ?_)
      have HKk := Lib.hid hK
      clear hK
      go_simp
      go_at_call 62
      refine HC.out.mono ?_; rintro e' w5 ⟨rfl, hb5⟩
      have HF5 := Lib.hid (HF.out w5 hb5 (.int .i64 (g : Int)) rfl)
      exact HKk.out _ _ ⟨_, _, _, _, _, _, _, _, _, _, rfl, Or.inl ⟨HNm.out, HF5.out⟩⟩
    | 8, _, h0, hall =>
      have hno : ¬ On l 10 := fun z => off_of h0 (hcl 10 (z) 8 (by decide +kernel))
      obtain ⟨hnm, F⟩ := hF.resolve_right (fun z => hno z.1)
      have HNm : Hid (¬ On (l.setIfInBounds 8 true) 10) := fun z => hnm (((on_set h0 10).1 z).resolve_left (by decide))
      clear hF hnm hno
      obtain rfl : v7 = .int .i64 (g : Int) := F.f 7 (hall 7 (by decide +kernel))
      have HF := Lib.hid (F.step FT.mono h0 (show 8 < 10 by decide) (Below.refl _ _) (x := .agg #[.int .i64 1, .int .i64 (g : Int), .int .i64 0, .int .i64 0]) rfl)
      clear F hall h0 hcl
      refine wpOp_step (by rfl) (fun K' hK => ?_)
      have HKk := Lib.hid hK
      clear hK
      go_simp
      exact HKk.out _ _ ⟨_, _, _, _, _, _, _, _, _, _, rfl, Or.inl ⟨HNm.out, HF.out⟩⟩
    | 9, _, h0, hall =>
      have hno : ¬ On l 10 := fun z => off_of h0 (hcl 10 (z) 9 (by decide +kernel))
      obtain ⟨hnm, F⟩ := hF.resolve_right (fun z => hno z.1)
      have HNm : Hid (¬ On (l.setIfInBounds 9 true) 10) := fun z => hnm (((on_set h0 10).1 z).resolve_left (by decide))
      clear hF hnm hno
      have HF := Lib.hid (F.step FT.mono h0 (show 9 < 10 by decide) (w' := w'.alloc (.cells #[.int .i64 0, .int .i64 0, .int .i64 0, .int .i64 0] 35)) (below_box _ _) (x := .pointer (some ⟨w'.heap.size, 0, none⟩)) (show ∃ b, _ ∧ W2.heap.size ≤ b ∧ Bx _ b _ _ from ⟨_, rfl, F.bel.size, Bx.new _ _ _⟩))
      clear F hall h0 hcl
      refine wpOp_step (by rfl) (fun K' hK => ?_)
      have HKk := Lib.hid hK
      clear hK
      go_simp
      exact HKk.out _ _ ⟨_, _, _, _, _, _, _, _, _, _, rfl, Or.inl ⟨HNm.out, HF.out⟩⟩
    | 10, _, h0, hall =>
      obtain ⟨hnm, F⟩ := hF.resolve_right (fun z => off_of h0 z.1)
      obtain rfl : v8 = .agg #[.int .i64 1, .int .i64 (g : Int), .int .i64 0, .int .i64 0] := F.f 8 (hall 8 (by decide +kernel))
      obtain ⟨bA, rfl, hbA, hxA⟩ : ∃ b, v9 = .pointer (some ⟨b, 0, none⟩) ∧ W2.heap.size ≤ b ∧ Bx w' b #[.int .i64 0, .int .i64 0, .int .i64 0, .int .i64 0] 35 := F.f 9 (hall 9 (by decide +kernel))
      obtain ⟨q0, q1, q2, q3, q4, q5, q6, q7⟩ := four_open (hxA)
      have HFin : Hid (On (l.setIfInBounds 10 true) 10 ∧ ∃ d, (Value.pointer (some ⟨bA, 0, none⟩)) = .pointer (some ⟨d, 0, none⟩) ∧ W2.heap.size ≤ d ∧ Bx ((((w'.setCell ⟨bA, 0, none⟩ (.int .i64 1)).setCell ⟨bA, 1, none⟩ (.int .i64 (g : Int))).setCell ⟨bA, 2, none⟩ (.int .i64 0)).setCell ⟨bA, 3, none⟩ (.int .i64 0)) d #[.int .i64 1, .int .i64 (g : Int), .int .i64 0, .int .i64 0] 35 ∧ Below W2.heap.size W2 ((((w'.setCell ⟨bA, 0, none⟩ (.int .i64 1)).setCell ⟨bA, 1, none⟩ (.int .i64 (g : Int))).setCell ⟨bA, 2, none⟩ (.int .i64 0)).setCell ⟨bA, 3, none⟩ (.int .i64 0))) := ⟨(on_set h0 10).2 (Or.inl rfl), bA, rfl, hbA, four_set hxA _ _ _ _, four_below F.bel hbA _ _ _ _⟩
      clear hall h0 hcl F hF hnm
      clear hxA hbA
      refine wpOp_step (by rfl) (fun K' hK => ?_)
      have HKk := Lib.hid hK
      clear hK
      go_simp
      exact HKk.out _ _ ⟨_, _, _, _, _, _, _, _, _, _, rfl, Or.inr HFin.out⟩
    | i + 11, hi, _, _ => exact absurd hi (by show ¬ (i + 11 < 11); omega)
  rintro l9 a wf ⟨r0, r1, r2, r3, r4, r5, r6, r7, r8, r9, rfl, hF⟩ hall
  obtain ⟨_, b, rfl, hbB, hbx, hbel⟩ := hF.resolve_left (fun z => z.1 (hall 10 (by decide)))
  clear hF hall
  have HO := Lib.hid hbx
  have HBf := Lib.hid hbel
  have HBB := Lib.hid hbB
  have HZf := Lib.hid (HZ.out.below hbel)
  have HXf := Lib.hid (HX.out.below hbel)
  have HBw := Lib.hid (below_2 HB.out hbel)
  have hq0 := HXf.out.cell 0
  simp only [List.getElem?_toArray, List.getElem?_cons_zero] at hq0
  have hne : b ≠ w.heap.size := by have h1 := HBB.out; have h2 := HHS.out; omega
  have hne3 : w.heap.size ≠ b := fun h => hne h.symm
  clear hbx hbel hbB
  by_cases h3 : s.op = 3
  · have hRv : R = ⟨1, g, 1, 0⟩ := by rw [← HR.out, h3]; rfl
    subst hRv
    have H3 := Lib.hid h3
    rw [h3] at hq0
    clear h3
    obtain ⟨k0, k1, k2, k3, k4, k5, k6, k7⟩ := four_open HO.out
    obtain ⟨d0, d1, d2, d3, d4, d5, d6, d7⟩ := four_open HZf.out
    have hz0 := HZf.out.keep (Below.heap_setCell wf ⟨b, 2, none⟩ (.int .i64 1) (w.heap.size + 1) (by have h1 := HBB.out; have h2 := HHS.out; show w.heap.size + 1 ≠ b; omega))
    obtain ⟨e0, e1, e2, e3, e4, e5, e6, e7⟩ := four_open hz0
    have hne1 : b ≠ w.heap.size + 1 := by have h1 := HBB.out; have h2 := HHS.out; omega
    have hne2 : w.heap.size + 1 ≠ b := fun h => hne1 h.symm
    have hx0 := HXf.out.keep (Below.heap_setCell wf ⟨b, 2, none⟩ (.int .i64 1) w.heap.size (by show w.heap.size ≠ b; exact hne3))
    have hq1 := hx0.cell 0
    simp only [List.getElem?_toArray, List.getElem?_cons_zero] at hq1
    rw [H3.out] at hq1
    clear hx0
    have hz := four_set hz0 (.int .i64 1) (.int .i64 (g : Int)) (.int .i64 1) (.int .i64 0)
    have q0 := hz.cell 0
    have q1 := hz.cell 1
    have q2 := hz.cell 2
    have q3 := hz.cell 3
    simp only [List.getElem?_toArray, List.getElem?_cons_zero, List.getElem?_cons_succ] at q0 q1 q2 q3
    clear hz hz0
    go_wp2_with fail
    refine bodyPost_ret (v := .agg #[.int .i64 1, .int .i64 (g : Int), .int .i64 1, .int .i64 0]) (by simp [results, Tryd.results34, go_sem, q0, q1, q2, q3]) rfl ?_
    exact ⟨rfl, four_below (HBw.out.setCell (p := ⟨b, 2, none⟩) (by have h1 := HBB.out; have h2 := HHS.out; show w.heap.size ≤ b; omega) _) (Nat.le_succ _) _ _ _ _⟩
  by_cases h4 : s.op = 4
  · have hRv : R = ⟨1, g, 1, 0⟩ := by rw [← HR.out, h4]; rfl
    subst hRv
    have H4 := Lib.hid h4
    rw [h4] at hq0
    clear h4 h3
    obtain ⟨k0, k1, k2, k3, k4, k5, k6, k7⟩ := four_open HO.out
    obtain ⟨d0, d1, d2, d3, d4, d5, d6, d7⟩ := four_open HZf.out
    have hz0 := HZf.out.keep (Below.heap_setCell wf ⟨b, 2, none⟩ (.int .i64 1) (w.heap.size + 1) (by have h1 := HBB.out; have h2 := HHS.out; show w.heap.size + 1 ≠ b; omega))
    obtain ⟨e0, e1, e2, e3, e4, e5, e6, e7⟩ := four_open hz0
    have hne1 : b ≠ w.heap.size + 1 := by have h1 := HBB.out; have h2 := HHS.out; omega
    have hne2 : w.heap.size + 1 ≠ b := fun h => hne1 h.symm
    have hx0 := HXf.out.keep (Below.heap_setCell wf ⟨b, 2, none⟩ (.int .i64 1) w.heap.size (by show w.heap.size ≠ b; exact hne3))
    have hq1 := hx0.cell 0
    simp only [List.getElem?_toArray, List.getElem?_cons_zero] at hq1
    rw [H4.out] at hq1
    clear hx0
    have hz := four_set hz0 (.int .i64 1) (.int .i64 (g : Int)) (.int .i64 1) (.int .i64 0)
    have q0 := hz.cell 0
    have q1 := hz.cell 1
    have q2 := hz.cell 2
    have q3 := hz.cell 3
    simp only [List.getElem?_toArray, List.getElem?_cons_zero, List.getElem?_cons_succ] at q0 q1 q2 q3
    clear hz hz0
    go_wp2_with fail
    refine bodyPost_ret (v := .agg #[.int .i64 1, .int .i64 (g : Int), .int .i64 1, .int .i64 0]) (by simp [results, Tryd.results34, go_sem, q0, q1, q2, q3]) rfl ?_
    exact ⟨rfl, four_below (HBw.out.setCell (p := ⟨b, 2, none⟩) (by have h1 := HBB.out; have h2 := HHS.out; show w.heap.size ≤ b; omega) _) (Nat.le_succ _) _ _ _ _⟩
  by_cases h7 : s.op = 7
  · have hRv : R = ⟨1, g, 0, 1⟩ := by rw [← HR.out, h7]; rfl
    subst hRv
    have H7 := Lib.hid h7
    rw [h7] at hq0
    clear h7 h3 h4
    obtain ⟨k0, k1, k2, k3, k4, k5, k6, k7⟩ := four_open HO.out
    obtain ⟨d0, d1, d2, d3, d4, d5, d6, d7⟩ := four_open HZf.out
    have hz0 := HZf.out.keep (Below.heap_setCell wf ⟨b, 3, none⟩ (.int .i64 1) (w.heap.size + 1) (by have h1 := HBB.out; have h2 := HHS.out; show w.heap.size + 1 ≠ b; omega))
    obtain ⟨e0, e1, e2, e3, e4, e5, e6, e7⟩ := four_open hz0
    have hne1 : b ≠ w.heap.size + 1 := by have h1 := HBB.out; have h2 := HHS.out; omega
    have hne2 : w.heap.size + 1 ≠ b := fun h => hne1 h.symm
    have hx0 := HXf.out.keep (Below.heap_setCell wf ⟨b, 3, none⟩ (.int .i64 1) w.heap.size (by show w.heap.size ≠ b; exact hne3))
    have hq1 := hx0.cell 0
    simp only [List.getElem?_toArray, List.getElem?_cons_zero] at hq1
    rw [H7.out] at hq1
    clear hx0
    have hz := four_set hz0 (.int .i64 1) (.int .i64 (g : Int)) (.int .i64 0) (.int .i64 1)
    have q0 := hz.cell 0
    have q1 := hz.cell 1
    have q2 := hz.cell 2
    have q3 := hz.cell 3
    simp only [List.getElem?_toArray, List.getElem?_cons_zero, List.getElem?_cons_succ] at q0 q1 q2 q3
    clear hz hz0
    go_wp2_with fail
    refine bodyPost_ret (v := .agg #[.int .i64 1, .int .i64 (g : Int), .int .i64 0, .int .i64 1]) (by simp [results, Tryd.results34, go_sem, q0, q1, q2, q3]) rfl ?_
    exact ⟨rfl, four_below (HBw.out.setCell (p := ⟨b, 3, none⟩) (by have h1 := HBB.out; have h2 := HHS.out; show w.heap.size ≤ b; omega) _) (Nat.le_succ _) _ _ _ _⟩
  have hRv : R = ⟨1, g, 0, 0⟩ := by rw [← HR.out, if_neg (fun h => h.elim h3 h4), if_neg h7]
  subst hRv
  have b3 : (s.op == 3) = false := beq_eq_false_iff_ne.2 h3
  have b4 : (s.op == 4) = false := beq_eq_false_iff_ne.2 h4
  have b7 : (s.op == 7) = false := beq_eq_false_iff_ne.2 h7
  clear h3 h4 h7
  obtain ⟨k0, k1, k2, k3, k4, k5, k6, k7⟩ := four_open HO.out
  obtain ⟨d0, d1, d2, d3, d4, d5, d6, d7⟩ := four_open HZf.out
  have hz0 := HZf.out
  have hz := four_set hz0 (.int .i64 1) (.int .i64 (g : Int)) (.int .i64 0) (.int .i64 0)
  have q0 := hz.cell 0
  have q1 := hz.cell 1
  have q2 := hz.cell 2
  have q3 := hz.cell 3
  simp only [List.getElem?_toArray, List.getElem?_cons_zero, List.getElem?_cons_succ] at q0 q1 q2 q3
  clear hz hz0
  go_wp2_with fail
  refine bodyPost_ret (v := .agg #[.int .i64 1, .int .i64 (g : Int), .int .i64 0, .int .i64 0]) (by simp [results, Tryd.results34, go_sem, q0, q1, q2, q3]) rfl ?_
  exact ⟨rfl, four_below HBw.out (Nat.le_succ _) _ _ _ _⟩
end Go.Proofs.YtkjefigebdbkaaaDoor.Q
namespace Go.Proofs.YtkjefigebdbkaaaDoor.Q
open Go.RowKit
open A (Ex St Bx okE okB okS cE cB cS Bodies)
open L (below_2 below_box ret_bool ret_int)
/-- choices in memory -/
def Chs (w : World) (a : Option Addr) (l : List Int) : Prop := l = [] ∨ ∃ b i, a = some ⟨b, i, none⟩ ∧ ∀ j (h : j < l.length), w.cell? ⟨b, i + j, none⟩ = some (.int .i64 l[j])
theorem Chs.below {w w' : World} {a : Option Addr} {l : List Int} (h : Chs w a l) (hb : Below w.heap.size w w') : Chs w' a l := by
  rcases h with h | ⟨b, i, ha, h⟩
  · exact Or.inl h
  · exact Or.inr ⟨b, i, ha, fun j hj => (hb.cell (block_lt_of_cell (h j hj))).trans (h j hj)⟩
/-- a path in progress, its cells -/
def wkC (c : Ct) (a : Option Addr) (n q : Nat) : Array Value := #[.int .i64 (c.s : Int), .int .i64 (c.g : Int), .int .i64 (c.u : Int), .int .i64 (c.m : Int), .slice a n q]
def wkV (c : Ct) (a : Option Addr) (n q : Nat) : Value := .agg (wkC c a n q)
structure C5 (w : World) (b : Nat) (z0 z1 z2 z3 z4 : Value) : Prop where
  c0 : w.cell? ⟨b, 0, none⟩ = some z0
  c1 : w.cell? ⟨b, 1, none⟩ = some z1
  c2 : w.cell? ⟨b, 2, none⟩ = some z2
  c3 : w.cell? ⟨b, 3, none⟩ = some z3
  c4 : w.cell? ⟨b, 4, none⟩ = some z4
  f0 : w.frozen? ⟨b, 0, none⟩ = false
  f1 : w.frozen? ⟨b, 1, none⟩ = false
  f2 : w.frozen? ⟨b, 2, none⟩ = false
  f3 : w.frozen? ⟨b, 3, none⟩ = false
  f4 : w.frozen? ⟨b, 4, none⟩ = false
theorem five_open {w : World} {b : Nat} {z0 z1 z2 z3 z4 : Value} {t : TypeId} (h : Bx w b #[z0, z1, z2, z3, z4] t) : C5 w b z0 z1 z2 z3 z4 :=
  ⟨h.cell 0, h.cell 1, h.cell 2, h.cell 3, h.cell 4, h.free 0, h.free 1, h.free 2, h.free 3, h.free 4⟩
theorem five_set {w : World} {b : Nat} {z0 z1 z2 z3 z4 : Value} {t : TypeId} (h : Bx w b #[z0, z1, z2, z3, z4] t) (u0 u1 u2 u3 u4 : Value) :
    Bx (((((w.setCell ⟨b, 0, none⟩ u0).setCell ⟨b, 1, none⟩ u1).setCell ⟨b, 2, none⟩ u2).setCell ⟨b, 3, none⟩ u3).setCell ⟨b, 4, none⟩ u4) b #[u0, u1, u2, u3, u4] t :=
  ((((h.set 0 (u := u0)).set 1 (u := u1)).set 2 (u := u2)).set 3 (u := u3)).set 4 (u := u4)
theorem five_below {B : Nat} {w w' : World} (h : Below B w w') {b : Nat} (hb : B ≤ b) (u0 u1 u2 u3 u4 : Value) : Below B w (((((w'.setCell ⟨b, 0, none⟩ u0).setCell ⟨b, 1, none⟩ u1).setCell ⟨b, 2, none⟩ u2).setCell ⟨b, 3, none⟩ u3).setCell ⟨b, 4, none⟩ u4) :=
  ((((h.setCell (p := ⟨b, 0, none⟩) hb _).setCell (p := ⟨b, 1, none⟩) hb _).setCell (p := ⟨b, 2, none⟩) hb _).setCell (p := ⟨b, 3, none⟩) hb _).setCell (p := ⟨b, 4, none⟩) hb _
theorem five_keep {w : World} {b c : Nat} {cs : Array Value} {t : TypeId} (h : Bx w b cs t) (hne : b ≠ c) (u0 u1 u2 u3 u4 : Value) : Bx (((((w.setCell ⟨c, 0, none⟩ u0).setCell ⟨c, 1, none⟩ u1).setCell ⟨c, 2, none⟩ u2).setCell ⟨c, 3, none⟩ u3).setCell ⟨c, 4, none⟩ u4) b cs t :=
  ((((h.keep (Below.heap_setCell _ ⟨c, 0, none⟩ u0 b hne)).keep (Below.heap_setCell _ ⟨c, 1, none⟩ u1 b hne)).keep (Below.heap_setCell _ ⟨c, 2, none⟩ u2 b hne)).keep (Below.heap_setCell _ ⟨c, 3, none⟩ u3 b hne)).keep (Below.heap_setCell _ ⟨c, 4, none⟩ u4 b hne)
/-- what next returns: a number below n, the same counts, choices of the same memory -/
def GivesNx (W0 : World) (c : Ct) (n : Int) (w : World) (e' : Ending) (w' : World) : Prop := ∃ (r : Int) (a : Option Addr) (l : List Int) (q : Nat), e' = .returned (.tuple #[.int .i64 r, wkV c a l.length q]) ∧ (0 ≤ r ∧ r < n) ∧ Chs W0 a l ∧ l.length ≤ q ∧ l.length ≤ 1000000000 ∧ Below w.heap.size w w'
theorem mod_rng {c n r : Int} (hn : 2 ≤ n) (h : c.tmod n = r) : -n < r ∧ r < n := by
  have h1 := Int.tmod_lt_of_pos c (b := n) (by omega)
  have h2 := Int.tmod_lt_of_pos (-c) (b := n) (by omega)
  rw [Int.neg_tmod] at h2
  omega
set_option maxHeartbeats 8000000 in
set_option maxRecDepth 100000 in
theorem rnext_any (W0 : World) (c : Ct) (a : Option Addr) (l : List Int) (q : Nat) (n : Int) (hn : 2 ≤ n ∧ n ≤ 17) (hq : l.length ≤ q) (hl : l.length ≤ 1000000000) (hch : Chs W0 a l) (w : World) (h0 : Below W0.heap.size W0 w) :
    Calls Tryd.prog 35 #[wkV c a l.length q, .int .i64 n] w fun e' w' => GivesNx W0 c n w e' w' := by
  obtain ⟨W1, e1⟩ : ∃ z, z = w.alloc (.cells #[.int .i64 (c.s : Int), .int .i64 (c.g : Int), .int .i64 (c.u : Int), .int .i64 (c.m : Int), .slice a l.length q] 37) := ⟨_, rfl⟩
  have bb1 : Below w.heap.size w W1 := by rw [e1]; exact below_box _ _
  have xx1 := Bx.new w #[.int .i64 (c.s : Int), .int .i64 (c.g : Int), .int .i64 (c.u : Int), .int .i64 (c.m : Int), .slice a l.length q] 37
  rw [← e1] at xx1
  have s1 : W1.heap.size = w.heap.size + 1 := by rw [e1]; simp
  obtain ⟨W2, e2⟩ : ∃ z, z = W1.alloc (.cells #[.int .i64 0, .int .i64 0, .int .i64 0, .int .i64 0, .slice none 0 0] 37) := ⟨_, rfl⟩
  have bb2 : Below W1.heap.size W1 W2 := by rw [e2]; exact below_box _ _
  have xx2 := Bx.new W1 #[.int .i64 0, .int .i64 0, .int .i64 0, .int .i64 0, .slice none 0 0] 37
  rw [← e2] at xx2
  rw [s1] at xx2
  have HB := Lib.hid (below_2 bb1 bb2)
  have HX := Lib.hid (xx1.below bb2)
  have HZ := Lib.hid xx2
  have HW : Hid ((w.alloc (.cells #[.int .i64 (c.s : Int), .int .i64 (c.g : Int), .int .i64 (c.u : Int), .int .i64 (c.m : Int), .slice a l.length q] 37)).alloc (.cells #[.int .i64 0, .int .i64 0, .int .i64 0, .int .i64 0, .slice none 0 0] 37) = W2) := by show _ = _; rw [← e1, ← e2]
  have HCh : Hid (Chs W2 a l) := (hch.below h0).below (below_2 bb1 bb2)
  have HC0 := Lib.hid hch
  clear e1 e2 bb1 bb2 xx1 xx2 s1 hch h0
  unfold wkV wkC
  have x4 := HX.out.cell 4
  have f4 := HX.out.free 4
  simp only [List.getElem?_toArray, List.getElem?_cons_zero, List.getElem?_cons_succ] at x4
  cases l with
  | nil =>
    simp only [List.length_nil] at HW HX x4
    obtain ⟨d0, d1, d2, d3, d4, d5, d6, d7, d8, d9⟩ := five_open HZ.out
    obtain ⟨k0, k1, k2, k3, k4, k5, k6, k7, k8, k9⟩ := five_open HX.out
    have hz := five_set HZ.out (.int .i64 (c.s : Int)) (.int .i64 (c.g : Int)) (.int .i64 (c.u : Int)) (.int .i64 (c.m : Int)) (.slice a 0 q)
    have q0 := hz.cell 0
    have q1 := hz.cell 1
    have q2 := hz.cell 2
    have q3 := hz.cell 3
    have q4 := hz.cell 4
    simp only [List.getElem?_toArray, List.getElem?_cons_zero, List.getElem?_cons_succ] at q0 q1 q2 q3 q4
    have HV : Hid (GivesNx W0 c n w (.returned (.tuple #[.int .i64 0, .agg #[.int .i64 (c.s : Int), .int .i64 (c.g : Int), .int .i64 (c.u : Int), .int .i64 (c.m : Int), .slice a 0 q]])) (((((W2.setCell ⟨w.heap.size + 1, 0, none⟩ (.int .i64 (c.s : Int))).setCell ⟨w.heap.size + 1, 1, none⟩ (.int .i64 (c.g : Int))).setCell ⟨w.heap.size + 1, 2, none⟩ (.int .i64 (c.u : Int))).setCell ⟨w.heap.size + 1, 3, none⟩ (.int .i64 (c.m : Int))).setCell ⟨w.heap.size + 1, 4, none⟩ (.slice a 0 q)).drew) :=
      ⟨0, a, [], q, rfl, ⟨by omega, by omega⟩, Or.inl rfl, Nat.zero_le _, Nat.zero_le _, (five_below HB.out (Nat.le_succ _) _ _ _ _ _).drew⟩
    clear hz
    go_enter Tryd.func35, Tryd.ntmps35
    go_wp2_with fail
    rw [HW.out]
    go_wp2_with fail
    go_region
    all_goals
      go_wp2_with fail
      refine bodyPost_ret (v := .tuple #[.int .i64 0, .agg #[.int .i64 (c.s : Int), .int .i64 (c.g : Int), .int .i64 (c.u : Int), .int .i64 (c.m : Int), .slice a 0 q]]) (by simp [results, Tryd.results35, go_sem, q0, q1, q2, q3, q4]) rfl ?_
      exact HV.out
  | cons x r =>
    obtain ⟨b, i, rfl, hcl⟩ := HCh.out.resolve_left (by simp)
    obtain ⟨b0, i0, hbi, hcl0⟩ := HC0.out.resolve_left (by simp)
    have hx0 := hcl 0 (by simp)
    rw [Nat.add_zero, List.getElem_cons_zero] at hx0
    have HCl := Lib.hid hcl0
    have HBi := Lib.hid hbi
    obtain ⟨g, hg⟩ : ∃ g, r.length = g := ⟨_, rfl⟩
    have HG := Lib.hid hg
    simp only [List.length_cons, hg] at HW HX x4 hq hl
    obtain ⟨m, hm⟩ : ∃ m, x.tmod n = m := ⟨_, rfl⟩
    have hmr := mod_rng hn.1 hm
    have hnz : (n == 0) = false := beq_eq_false_iff_ne.2 (by omega)
    have HM := Lib.hid hm
    clear hcl hcl0 hbi hg
    simp only [List.length_cons]
    rw [HG.out]
    have hmd : decide (m < 0) = true ∨ decide (m < 0) = false := by cases decide (m < 0) <;> simp
    obtain ⟨d0, d1, d2, d3, d4, d5, d6, d7, d8, d9⟩ := five_open HZ.out
    obtain ⟨k0, k1, k2, k3, k4, k5, k6, k7, k8, k9⟩ := five_open HX.out
    have HChr : Hid (Chs W0 (some ⟨b, i + 1, none⟩) r) := by
      have hbi := HBi.out
      injection hbi with h1
      injection h1 with h1 h2
      subst h1 h2
      refine Or.inr ⟨b, i + 1, rfl, fun j hj => ?_⟩
      have := HCl.out (j + 1) (by simp only [List.length_cons]; omega)
      rw [List.getElem_cons_succ] at this
      rw [show i + 1 + j = i + (j + 1) by omega]
      exact this
    clear HBi HCl HC0 HCh hmd
    by_cases hneg : m < 0
    · have bn : decide (m < 0) = true := decide_eq_true hneg
      go_enter Tryd.func35, Tryd.ntmps35
      go_upto_region 1 with fail
      rw [HW.out]
      go_upto_region 6 with fail
      by_cases hq1 : q = 1
      · subst hq1
        go_upto_region 7 with fail
        have hx5 := HX.out.set 4 (u := .slice (some ⟨b, i, none⟩) 0 0)
        have hz5 := HZ.out.keep (Below.heap_setCell W2 ⟨w.heap.size, 4, none⟩ (.slice (some ⟨b, i, none⟩) 0 0) (w.heap.size + 1) (by show w.heap.size + 1 ≠ w.heap.size; omega))
        have hb5 := HB.out.setCell (p := ⟨w.heap.size, 4, none⟩) (Nat.le_refl _) (.slice (some ⟨b, i, none⟩) 0 0)
        obtain ⟨W3, hW3⟩ : ∃ z, W2.setCell ⟨w.heap.size, 4, none⟩ (.slice (some ⟨b, i, none⟩) 0 0) = z := ⟨_, rfl⟩
        rw [hW3] at hx5 hz5 hb5 ⊢
        simp only [List.setIfInBounds_toArray, List.set_cons_zero, List.set_cons_succ] at hx5
        clear d0 d1 d2 d3 d4 d5 d6 d7 d8 d9 k0 k1 k2 k3 k4 k5 k6 k7 k8 k9 x4 f4 hx0
        obtain ⟨d0, d1, d2, d3, d4, d5, d6, d7, d8, d9⟩ := five_open hz5
        obtain ⟨k0, k1, k2, k3, k4, k5, k6, k7, k8, k9⟩ := five_open hx5
        have hz := five_set hz5 (.int .i64 (c.s : Int)) (.int .i64 (c.g : Int)) (.int .i64 (c.u : Int)) (.int .i64 (c.m : Int)) (.slice (some ⟨b, i, none⟩) 0 0)
        have q0 := hz.cell 0
        have q1 := hz.cell 1
        have q2 := hz.cell 2
        have q3 := hz.cell 3
        have q4 := hz.cell 4
        simp only [List.getElem?_toArray, List.getElem?_cons_zero, List.getElem?_cons_succ] at q0 q1 q2 q3 q4
        have HV : Hid (GivesNx W0 c n w (.returned (.tuple #[.int .i64 (m + n), .agg #[.int .i64 (c.s : Int), .int .i64 (c.g : Int), .int .i64 (c.u : Int), .int .i64 (c.m : Int), .slice (some ⟨b, i, none⟩) 0 0]])) (((((W3.setCell ⟨w.heap.size + 1, 0, none⟩ (.int .i64 (c.s : Int))).setCell ⟨w.heap.size + 1, 1, none⟩ (.int .i64 (c.g : Int))).setCell ⟨w.heap.size + 1, 2, none⟩ (.int .i64 (c.u : Int))).setCell ⟨w.heap.size + 1, 3, none⟩ (.int .i64 (c.m : Int))).setCell ⟨w.heap.size + 1, 4, none⟩ (.slice (some ⟨b, i, none⟩) 0 0)).drew) :=
          ⟨m + n, some ⟨b, i, none⟩, [], 0, rfl, ⟨by omega, by omega⟩, Or.inl rfl, Nat.zero_le _, Nat.zero_le _, (five_below hb5 (Nat.le_succ _) _ _ _ _ _).drew⟩
        clear hz hx5 hz5 hb5 hW3
        go_region
        all_goals
          go_wp2_with fail
          refine bodyPost_ret (v := .tuple #[.int .i64 (m + n), .agg #[.int .i64 (c.s : Int), .int .i64 (c.g : Int), .int .i64 (c.u : Int), .int .i64 (c.m : Int), .slice (some ⟨b, i, none⟩) 0 0]]) (by simp [results, Tryd.results35, go_sem, q0, q1, q2, q3, q4]) rfl ?_
          exact HV.out
      · go_upto_region 7 with fail
        have hx5 := HX.out.set 4 (u := .slice (some ⟨b, i + 1, none⟩) g (q - 1))
        have hz5 := HZ.out.keep (Below.heap_setCell W2 ⟨w.heap.size, 4, none⟩ (.slice (some ⟨b, i + 1, none⟩) g (q - 1)) (w.heap.size + 1) (by show w.heap.size + 1 ≠ w.heap.size; omega))
        have hb5 := HB.out.setCell (p := ⟨w.heap.size, 4, none⟩) (Nat.le_refl _) (.slice (some ⟨b, i + 1, none⟩) g (q - 1))
        obtain ⟨W3, hW3⟩ : ∃ z, W2.setCell ⟨w.heap.size, 4, none⟩ (.slice (some ⟨b, i + 1, none⟩) g (q - 1)) = z := ⟨_, rfl⟩
        rw [hW3] at hx5 hz5 hb5 ⊢
        simp only [List.setIfInBounds_toArray, List.set_cons_zero, List.set_cons_succ] at hx5
        clear d0 d1 d2 d3 d4 d5 d6 d7 d8 d9 k0 k1 k2 k3 k4 k5 k6 k7 k8 k9 x4 f4 hx0
        obtain ⟨d0, d1, d2, d3, d4, d5, d6, d7, d8, d9⟩ := five_open hz5
        obtain ⟨k0, k1, k2, k3, k4, k5, k6, k7, k8, k9⟩ := five_open hx5
        have hz := five_set hz5 (.int .i64 (c.s : Int)) (.int .i64 (c.g : Int)) (.int .i64 (c.u : Int)) (.int .i64 (c.m : Int)) (.slice (some ⟨b, i + 1, none⟩) g (q - 1))
        have q0 := hz.cell 0
        have q1 := hz.cell 1
        have q2 := hz.cell 2
        have q3 := hz.cell 3
        have q4 := hz.cell 4
        simp only [List.getElem?_toArray, List.getElem?_cons_zero, List.getElem?_cons_succ] at q0 q1 q2 q3 q4
        have HV : Hid (GivesNx W0 c n w (.returned (.tuple #[.int .i64 (m + n), .agg #[.int .i64 (c.s : Int), .int .i64 (c.g : Int), .int .i64 (c.u : Int), .int .i64 (c.m : Int), .slice (some ⟨b, i + 1, none⟩) g (q - 1)]])) (((((W3.setCell ⟨w.heap.size + 1, 0, none⟩ (.int .i64 (c.s : Int))).setCell ⟨w.heap.size + 1, 1, none⟩ (.int .i64 (c.g : Int))).setCell ⟨w.heap.size + 1, 2, none⟩ (.int .i64 (c.u : Int))).setCell ⟨w.heap.size + 1, 3, none⟩ (.int .i64 (c.m : Int))).setCell ⟨w.heap.size + 1, 4, none⟩ (.slice (some ⟨b, i + 1, none⟩) g (q - 1))).drew) :=
          ⟨m + n, some ⟨b, i + 1, none⟩, r, q - 1, by rw [HG.out]; rfl, ⟨by omega, by omega⟩, HChr.out, by rw [HG.out]; omega, by rw [HG.out]; omega, (five_below hb5 (Nat.le_succ _) _ _ _ _ _).drew⟩
        clear hz hx5 hz5 hb5 hW3
        go_region
        all_goals
          go_wp2_with fail
          refine bodyPost_ret (v := .tuple #[.int .i64 (m + n), .agg #[.int .i64 (c.s : Int), .int .i64 (c.g : Int), .int .i64 (c.u : Int), .int .i64 (c.m : Int), .slice (some ⟨b, i + 1, none⟩) g (q - 1)]]) (by simp [results, Tryd.results35, go_sem, q0, q1, q2, q3, q4]) rfl ?_
          exact HV.out
    · have bn : decide (m < 0) = false := decide_eq_false hneg
      go_enter Tryd.func35, Tryd.ntmps35
      go_upto_region 1 with fail
      rw [HW.out]
      go_upto_region 6 with fail
      by_cases hq1 : q = 1
      · subst hq1
        go_upto_region 7 with fail
        have hx5 := HX.out.set 4 (u := .slice (some ⟨b, i, none⟩) 0 0)
        have hz5 := HZ.out.keep (Below.heap_setCell W2 ⟨w.heap.size, 4, none⟩ (.slice (some ⟨b, i, none⟩) 0 0) (w.heap.size + 1) (by show w.heap.size + 1 ≠ w.heap.size; omega))
        have hb5 := HB.out.setCell (p := ⟨w.heap.size, 4, none⟩) (Nat.le_refl _) (.slice (some ⟨b, i, none⟩) 0 0)
        obtain ⟨W3, hW3⟩ : ∃ z, W2.setCell ⟨w.heap.size, 4, none⟩ (.slice (some ⟨b, i, none⟩) 0 0) = z := ⟨_, rfl⟩
        rw [hW3] at hx5 hz5 hb5 ⊢
        simp only [List.setIfInBounds_toArray, List.set_cons_zero, List.set_cons_succ] at hx5
        clear d0 d1 d2 d3 d4 d5 d6 d7 d8 d9 k0 k1 k2 k3 k4 k5 k6 k7 k8 k9 x4 f4 hx0
        obtain ⟨d0, d1, d2, d3, d4, d5, d6, d7, d8, d9⟩ := five_open hz5
        obtain ⟨k0, k1, k2, k3, k4, k5, k6, k7, k8, k9⟩ := five_open hx5
        have hz := five_set hz5 (.int .i64 (c.s : Int)) (.int .i64 (c.g : Int)) (.int .i64 (c.u : Int)) (.int .i64 (c.m : Int)) (.slice (some ⟨b, i, none⟩) 0 0)
        have q0 := hz.cell 0
        have q1 := hz.cell 1
        have q2 := hz.cell 2
        have q3 := hz.cell 3
        have q4 := hz.cell 4
        simp only [List.getElem?_toArray, List.getElem?_cons_zero, List.getElem?_cons_succ] at q0 q1 q2 q3 q4
        have HV : Hid (GivesNx W0 c n w (.returned (.tuple #[.int .i64 (m), .agg #[.int .i64 (c.s : Int), .int .i64 (c.g : Int), .int .i64 (c.u : Int), .int .i64 (c.m : Int), .slice (some ⟨b, i, none⟩) 0 0]])) (((((W3.setCell ⟨w.heap.size + 1, 0, none⟩ (.int .i64 (c.s : Int))).setCell ⟨w.heap.size + 1, 1, none⟩ (.int .i64 (c.g : Int))).setCell ⟨w.heap.size + 1, 2, none⟩ (.int .i64 (c.u : Int))).setCell ⟨w.heap.size + 1, 3, none⟩ (.int .i64 (c.m : Int))).setCell ⟨w.heap.size + 1, 4, none⟩ (.slice (some ⟨b, i, none⟩) 0 0)).drew) :=
          ⟨m, some ⟨b, i, none⟩, [], 0, rfl, ⟨by omega, by omega⟩, Or.inl rfl, Nat.zero_le _, Nat.zero_le _, (five_below hb5 (Nat.le_succ _) _ _ _ _ _).drew⟩
        clear hz hx5 hz5 hb5 hW3
        go_region
        all_goals
          go_wp2_with fail
          refine bodyPost_ret (v := .tuple #[.int .i64 (m), .agg #[.int .i64 (c.s : Int), .int .i64 (c.g : Int), .int .i64 (c.u : Int), .int .i64 (c.m : Int), .slice (some ⟨b, i, none⟩) 0 0]]) (by simp [results, Tryd.results35, go_sem, q0, q1, q2, q3, q4]) rfl ?_
          exact HV.out
      · go_upto_region 7 with fail
        have hx5 := HX.out.set 4 (u := .slice (some ⟨b, i + 1, none⟩) g (q - 1))
        have hz5 := HZ.out.keep (Below.heap_setCell W2 ⟨w.heap.size, 4, none⟩ (.slice (some ⟨b, i + 1, none⟩) g (q - 1)) (w.heap.size + 1) (by show w.heap.size + 1 ≠ w.heap.size; omega))
        have hb5 := HB.out.setCell (p := ⟨w.heap.size, 4, none⟩) (Nat.le_refl _) (.slice (some ⟨b, i + 1, none⟩) g (q - 1))
        obtain ⟨W3, hW3⟩ : ∃ z, W2.setCell ⟨w.heap.size, 4, none⟩ (.slice (some ⟨b, i + 1, none⟩) g (q - 1)) = z := ⟨_, rfl⟩
        rw [hW3] at hx5 hz5 hb5 ⊢
        simp only [List.setIfInBounds_toArray, List.set_cons_zero, List.set_cons_succ] at hx5
        clear d0 d1 d2 d3 d4 d5 d6 d7 d8 d9 k0 k1 k2 k3 k4 k5 k6 k7 k8 k9 x4 f4 hx0
        obtain ⟨d0, d1, d2, d3, d4, d5, d6, d7, d8, d9⟩ := five_open hz5
        obtain ⟨k0, k1, k2, k3, k4, k5, k6, k7, k8, k9⟩ := five_open hx5
        have hz := five_set hz5 (.int .i64 (c.s : Int)) (.int .i64 (c.g : Int)) (.int .i64 (c.u : Int)) (.int .i64 (c.m : Int)) (.slice (some ⟨b, i + 1, none⟩) g (q - 1))
        have q0 := hz.cell 0
        have q1 := hz.cell 1
        have q2 := hz.cell 2
        have q3 := hz.cell 3
        have q4 := hz.cell 4
        simp only [List.getElem?_toArray, List.getElem?_cons_zero, List.getElem?_cons_succ] at q0 q1 q2 q3 q4
        have HV : Hid (GivesNx W0 c n w (.returned (.tuple #[.int .i64 (m), .agg #[.int .i64 (c.s : Int), .int .i64 (c.g : Int), .int .i64 (c.u : Int), .int .i64 (c.m : Int), .slice (some ⟨b, i + 1, none⟩) g (q - 1)]])) (((((W3.setCell ⟨w.heap.size + 1, 0, none⟩ (.int .i64 (c.s : Int))).setCell ⟨w.heap.size + 1, 1, none⟩ (.int .i64 (c.g : Int))).setCell ⟨w.heap.size + 1, 2, none⟩ (.int .i64 (c.u : Int))).setCell ⟨w.heap.size + 1, 3, none⟩ (.int .i64 (c.m : Int))).setCell ⟨w.heap.size + 1, 4, none⟩ (.slice (some ⟨b, i + 1, none⟩) g (q - 1))).drew) :=
          ⟨m, some ⟨b, i + 1, none⟩, r, q - 1, by rw [HG.out]; rfl, ⟨by omega, by omega⟩, HChr.out, by rw [HG.out]; omega, by rw [HG.out]; omega, (five_below hb5 (Nat.le_succ _) _ _ _ _ _).drew⟩
        clear hz hx5 hz5 hb5 hW3
        go_region
        all_goals
          go_wp2_with fail
          refine bodyPost_ret (v := .tuple #[.int .i64 (m), .agg #[.int .i64 (c.s : Int), .int .i64 (c.g : Int), .int .i64 (c.u : Int), .int .i64 (c.m : Int), .slice (some ⟨b, i + 1, none⟩) g (q - 1)]]) (by simp [results, Tryd.results35, go_sem, q0, q1, q2, q3, q4]) rfl ?_
          exact HV.out
end Go.Proofs.YtkjefigebdbkaaaDoor.Q
namespace Go.Proofs.YtkjefigebdbkaaaDoor.Q
open Go.RowKit
open A (Ex St Bx okE okB okS cE cB cS Bodies stC)
open L (below_2 below_box ret_bool ret_int)
theorem Bd.le {n : Nat} {a b : Ct} (h : a.le b) (hb : Bd n b) : Bd n a := ⟨Nat.le_trans h.1 hb.1, Nat.le_trans h.2.1 hb.2.1, Nat.le_trans h.2.2.1 hb.2.2.1, Nat.le_trans h.2.2.2 hb.2.2.2⟩
theorem le_own {c c0 T O X : Ct} (h : c.le (c0.add T)) : (c.add O).le (c0.add (T.add (O.add X))) := by
  obtain ⟨h1, h2, h3, h4⟩ := h
  simp only [Ct.add] at h1 h2 h3 h4
  refine ⟨?_, ?_, ?_, ?_⟩ <;> (simp only [Ct.add]; omega)
theorem le_body {c c0 T O B1 X c3 : Ct} (h : c.le (c0.add T)) (hx : B1.le X) (h3 : c3.le ((c.add O).add B1)) : c3.le (c0.add (T.add (O.add X))) := by
  obtain ⟨h1, h2, h5, h4⟩ := h
  obtain ⟨x1, x2, x3, x4⟩ := hx
  obtain ⟨y1, y2, y3, y4⟩ := h3
  simp only [Ct.add] at h1 h2 h5 h4 y1 y2 y3 y4
  refine ⟨?_, ?_, ?_, ?_⟩ <;> (simp only [Ct.add]; omega)
theorem le_in {c c0 T O B1 X : Ct} (h : c.le (c0.add T)) (hx : B1.le X) : ((c.add O).add B1).le (c0.add (T.add (O.add X))) := le_body h hx (Ct.le.refl _)
theorem le_round {c c2 B1 : Ct} {j : Nat} (h : c.le (c2.add (Ct.mul j (B1.add Ct.one)))) : ((c.add Ct.one).add B1).le (c2.add (Ct.mul (j + 1) (B1.add Ct.one))) := by
  rw [Ct.mul_succ]
  obtain ⟨h1, h2, h3, h4⟩ := h
  simp only [Ct.add] at h1 h2 h3 h4
  refine ⟨?_, ?_, ?_, ?_⟩ <;> (simp only [Ct.add, Ct.one] at h1 h2 h3 h4 ⊢; omega)
theorem le_mul (c2 B1 : Ct) {j k : Nat} (h : j ≤ k) : (c2.add (Ct.mul j (B1.add Ct.one))).le (c2.add (Ct.mul k (B1.add Ct.one))) := (Ct.mul_le h _).addl _
/-- the first four of five cells are written -/
theorem part_set {w : World} {b : Nat} {z0 z1 z2 z3 z4 : Value} {t : TypeId} (h : Bx w b #[z0, z1, z2, z3, z4] t) (u0 u1 u2 u3 : Value) :
    Bx ((((w.setCell ⟨b, 0, none⟩ u0).setCell ⟨b, 1, none⟩ u1).setCell ⟨b, 2, none⟩ u2).setCell ⟨b, 3, none⟩ u3) b #[u0, u1, u2, u3, z4] t :=
  (((h.set 0 (u := u0)).set 1 (u := u1)).set 2 (u := u2)).set 3 (u := u3)
theorem part_keep {w : World} {b c : Nat} {cs : Array Value} {t : TypeId} (h : Bx w b cs t) (hne : b ≠ c) (u0 u1 u2 u3 : Value) : Bx ((((w.setCell ⟨c, 0, none⟩ u0).setCell ⟨c, 1, none⟩ u1).setCell ⟨c, 2, none⟩ u2).setCell ⟨c, 3, none⟩ u3) b cs t :=
  (((h.keep (Below.heap_setCell _ ⟨c, 0, none⟩ u0 b hne)).keep (Below.heap_setCell _ ⟨c, 1, none⟩ u1 b hne)).keep (Below.heap_setCell _ ⟨c, 2, none⟩ u2 b hne)).keep (Below.heap_setCell _ ⟨c, 3, none⟩ u3 b hne)
def GivesP (W0 : World) (C : Ct) (w : World) (e' : Ending) (w' : World) : Prop := ∃ (c : Ct) (a : Option Addr) (l : List Int) (q : Nat), e' = .returned (wkV c a l.length q) ∧ c.le C ∧ Chs W0 a l ∧ l.length ≤ q ∧ l.length ≤ 1000000000 ∧ Below w.heap.size w w'
def QP (l : List St) : Prop := ∀ (W0 : World) (c0 : Ct) (ca : Option Addr) (ch : List Int) (cq : Nat) (a : Option Addr) (q : Nat) (w : World), l.length ≤ 1000000000000000 → okB l → goB l → cB l ≤ 16000 → Bd 16384 (c0.add (exB l)) →
  ch.length ≤ cq → ch.length ≤ 1000000000 → Chs W0 ca ch → Bodies W0 a l → Below W0.heap.size W0 w →
  Calls Tryd.prog 14 #[wkV c0 ca ch.length cq, .slice a l.length q] w (GivesP W0 (c0.add (exB l)) w)
set_option maxHeartbeats 16000000 in
set_option maxRecDepth 100000 in
theorem path_any : ∀ l, QP l := by
  refine A.body_ind fun l ih => ?_
  intro W0 c0 ca ch cq a q w hl hok hgo hsz hbd hcq hcl hch hK hw0
  obtain ⟨W1, e1⟩ : ∃ z, z = w.alloc (.cells #[.int .i64 (c0.s : Int), .int .i64 (c0.g : Int), .int .i64 (c0.u : Int), .int .i64 (c0.m : Int), .slice ca ch.length cq] 37) := ⟨_, rfl⟩
  have bb1 : Below w.heap.size w W1 := by rw [e1]; exact below_box _ _
  have xx1 := Bx.new w #[.int .i64 (c0.s : Int), .int .i64 (c0.g : Int), .int .i64 (c0.u : Int), .int .i64 (c0.m : Int), .slice ca ch.length cq] 37
  rw [← e1] at xx1
  have s1 : W1.heap.size = w.heap.size + 1 := by rw [e1]; simp
  obtain ⟨W2, e2⟩ : ∃ z, z = W1.alloc (.cells #[.int .i64 0, .int .i64 0, .int .i64 0, .int .i64 0, .slice none 0 0] 37) := ⟨_, rfl⟩
  have bb2 : Below W1.heap.size W1 W2 := by rw [e2]; exact below_box _ _
  have xx2 := Bx.new W1 #[.int .i64 0, .int .i64 0, .int .i64 0, .int .i64 0, .slice none 0 0] 37
  rw [← e2] at xx2
  rw [s1] at xx2
  have s2 : W2.heap.size = w.heap.size + 1 + 1 := by rw [e2]; simp [s1]
  have HB := Lib.hid (below_2 bb1 bb2)
  have HX := Lib.hid (xx1.below bb2)
  have HZ := Lib.hid xx2
  have HW : Hid ((w.alloc (.cells #[.int .i64 (c0.s : Int), .int .i64 (c0.g : Int), .int .i64 (c0.u : Int), .int .i64 (c0.m : Int), .slice ca ch.length cq] 37)).alloc (.cells #[.int .i64 0, .int .i64 0, .int .i64 0, .int .i64 0, .slice none 0 0] 37) = W2) := by show _ = _; rw [← e1, ← e2]
  have HS2 : Hid (W2.heap.size = w.heap.size + 1 + 1) := s2
  have HCh0 := Lib.hid hch
  have HK := Lib.hid hK
  have HW0 := Lib.hid hw0
  have HIH := Lib.hid ih
  have HOk := Lib.hid hok
  have HGo := Lib.hid hgo
  have HBd := Lib.hid hbd
  have HSz := Lib.hid hsz
  obtain ⟨CC, hCC⟩ : ∃ C, c0.add (exB l) = C := ⟨_, rfl⟩
  have HCC := Lib.hid hCC
  rw [hCC]
  obtain ⟨g, hg⟩ : ∃ g, l.length = g := ⟨_, rfl⟩
  have HL := Lib.hid hg
  obtain ⟨hn, hhn⟩ : ∃ g, ch.length = g := ⟨_, rfl⟩
  have HHn := Lib.hid hhn
  rw [hhn] at HW HX hcq hcl ⊢
  rw [hg] at hl ⊢
  clear e1 e2 bb1 bb2 xx1 xx2 s1 s2 hch hK hw0 ih hok hgo hbd hsz hg hCC hhn
  unfold wkV wkC
  go_enter Tryd.func14, Tryd.ntmps14
  go_wp2_with fail
  rw [HW.out]
  go_loopw [5] (fun s5 wr => ∃ (k : Nat) (c : Ct) (ca : Option Addr) (ch : List Int) (cn cq : Nat), k ≤ g ∧ s5 = .int .i64 k ∧ Hid (c.le (c0.add (exB (l.take k)))) ∧ Hid (Bx wr w.heap.size #[.int .i64 (c.s : Int), .int .i64 (c.g : Int), .int .i64 (c.u : Int), .int .i64 (c.m : Int), .slice ca cn cq] 37) ∧ Hid (Bx wr (w.heap.size + 1) #[.int .i64 0, .int .i64 0, .int .i64 0, .int .i64 0, .slice none 0 0] 37) ∧ Hid (Chs W0 ca ch) ∧ Hid (ch.length = cn) ∧ cn ≤ cq ∧ cn ≤ 1000000000 ∧ Hid (Below w.heap.size w wr)) (fun s5 _ => g - (intOf s5).toNat)
  case atStart => exact ⟨0, c0, ca, ch, hn, cq, Nat.zero_le _, rfl, by show Ct.le _ _; rw [List.take_zero, exB, Ct.add_z]; exact Ct.le.refl _, HX.out, HZ.out, HCh0.out, HHn.out, hcq, hcl, HB.out⟩
  case round =>
    clear HX HZ HB HW HCh0 HHn hcq hcl
    obtain ⟨k, c, ca, ch, cn, cq, hk, rfl, HC, HX, HZ, HCh, HCn, hcq, hcl, HB⟩ := hrel
    have hbc : Bd 16384 c := by
      refine Bd.le HC.out (Bd.le ?_ HBd.out)
      exact (exB_takele l k).addl c0
    obtain ⟨hs16, hg16, hu16, hm16⟩ := hbc
    have hlt3 : decide ((c.s : Int) < 30000) = true := decide_eq_true (by omega)
    obtain ⟨k0, k1, k2, k3, k4, k5, k6, k7, k8, k9⟩ := five_open HX.out
    by_cases hlt : k < g
    · have hlx : k < l.length := by rw [HL.out]; exact hlt
      obtain ⟨b2, i2, rfl, hat⟩ := HK.out.open hlx
      have hE := exB_take hlx
      have hos := A.okB.get HOk.out k hlx
      have hgs := goS_parts (HGo.out.get k hlx)
      have hss := Nat.le_trans (cB_get hlx) HSz.out
      have hih := HIH.out k hlx
      have hle := exB_takele l (k + 1)
      have hbd2 : (c0.add (exB (l.take (k + 1)))).le (c0.add (exB l)) := (exB_takele l (k + 1)).addl c0
      rw [hE] at hbd2
      have HEk : Hid (exB (l.take (k + 1)) = (exB (l.take k)).add (exS l[k])) := hE
      generalize l[k] = s at hat hos hgs hss hih hbd2 HEk
      generalize exB (l.take k) = TT at HC hbd2 HEk
      obtain ⟨a1, c1, a2, c2, a3, c3, a4, c4, hcs0, hks0⟩ := hat.open
      have hw0r := below_2 HW0.out HB.out
      have hcs := hcs0.below hw0r
      have HOS := A.okS_open hos
      have hpt := exS_parts s
      have hb3 := below_box wr (.cells #[.int .i64 s.op, .string s.name, .int .i64 s.mx, .int .i64 s.a.op, .int .i64 s.a.n, .string s.a.s, .slice a1 s.a.args.length c1, .int .i64 s.b.op, .int .i64 s.b.n, .string s.b.s, .slice a2 s.b.args.length c2, .slice a3 s.body.length c3, .slice a4 s.els.length c4] 48)
      have hx3 := Bx.new wr #[.int .i64 s.op, .string s.name, .int .i64 s.mx, .int .i64 s.a.op, .int .i64 s.a.n, .string s.a.s, .slice a1 s.a.args.length c1, .int .i64 s.b.op, .int .i64 s.b.n, .string s.b.s, .slice a2 s.b.args.length c2, .slice a3 s.body.length c3, .slice a4 s.els.length c4] 48
      have hXV := HX.out.below hb3
      have hZV := HZ.out.below hb3
      obtain ⟨V1, hV1⟩ : ∃ z, wr.alloc (.cells #[.int .i64 s.op, .string s.name, .int .i64 s.mx, .int .i64 s.a.op, .int .i64 s.a.n, .string s.a.s, .slice a1 s.a.args.length c1, .int .i64 s.b.op, .int .i64 s.b.n, .string s.b.s, .slice a2 s.b.args.length c2, .slice a3 s.body.length c3, .slice a4 s.els.length c4] 48) = z := ⟨_, rfl⟩
      rw [hV1] at hb3 hx3 hXV hZV
      have HV1 := Lib.hid hV1
      have HM := Lib.hid hx3
      have HXV := Lib.hid hXV
      have HZV := Lib.hid hZV
      have HBV := Lib.hid (below_2 HB.out hb3)
      have HNM : Hid (w.heap.size + 1 < wr.heap.size) := HZ.out.lt
      have HOw : Hid (Calls Tryd.prog 34 #[stC s a1 c1 a2 c2 a3 c3 a4 c4] V1 fun e' w' => e' = .returned (ctV (ownC s.op s.a s.b)) ∧ Below V1.heap.size V1 w') := rown_any s a1 c1 a2 c2 a3 c3 a4 c4 hos hss V1 (hks0.below (below_2 hw0r hb3))
      have hbody : ∀ (cc : Ct) (xa : Option Addr) (xl : List Int) (xq : Nat) (w' : World), Bd 16384 (cc.add (exB s.body)) → xl.length ≤ xq → xl.length ≤ 1000000000 → Chs W0 xa xl → Below W0.heap.size W0 w' → Calls Tryd.prog 14 #[.agg #[.int .i64 (cc.s : Int), .int .i64 (cc.g : Int), .int .i64 (cc.u : Int), .int .i64 (cc.m : Int), .slice xa xl.length xq], .slice a3 s.body.length c3] w' (GivesP W0 (cc.add (exB s.body)) w') := fun cc xa xl xq w' h1 h2 h3 h4 h5 =>
        hih.1 W0 cc xa xl xq a3 c3 w' HOS.bodyLen HOS.body hgs.2.1 (by have := A.cS_parts s; omega) h1 h2 h3 h4 hks0.body h5
      have hels : ∀ (cc : Ct) (xa : Option Addr) (xl : List Int) (xq : Nat) (w' : World), Bd 16384 (cc.add (exB s.els)) → xl.length ≤ xq → xl.length ≤ 1000000000 → Chs W0 xa xl → Below W0.heap.size W0 w' → Calls Tryd.prog 14 #[.agg #[.int .i64 (cc.s : Int), .int .i64 (cc.g : Int), .int .i64 (cc.u : Int), .int .i64 (cc.m : Int), .slice xa xl.length xq], .slice a4 s.els.length c4] w' (GivesP W0 (cc.add (exB s.els)) w') := fun cc xa xl xq w' h1 h2 h3 h4 h5 =>
        hih.2 W0 cc xa xl xq a4 c4 w' HOS.elsLen HOS.els hgs.2.2 (by have := A.cS_parts s; omega) h1 h2 h3 h4 hks0.els h5
      have HBody := Lib.hid hbody
      have HEls := Lib.hid hels
      have HMx := Lib.hid hgs.1
      have HPt := Lib.hid hpt
      have HBd2 : Hid (Bd 16384 (c0.add (TT.add (exS s)))) := Bd.le hbd2 HBd.out
      generalize ownC s.op s.a s.b = O at HOw HPt
      obtain ⟨m0, m1, m2, m3, m4, m5, m6, m7, m8, m9, m10, m11, m12⟩ := hcs
      clear hat hE hos hgs hss hih hbd2 hcs0 hks0 hw0r HOS hpt hb3 hx3 hXV hZV hV1 hbody hels hle
      unfold stC ctV at HOw
      go_wp2_with fail
      rw [HV1.out]
      refine HOw.out.mono ?_; rintro e' w3 ⟨rfl, hb3⟩
      have HXW := Lib.hid (HXV.out.below hb3)
      have HZW := Lib.hid (HZV.out.below hb3)
      have HMW := Lib.hid (HM.out.below hb3)
      have HBW := Lib.hid (below_2 HBV.out hb3)
      have HSW : Hid (V1.heap.size ≤ w3.heap.size) := hb3.size
      clear hb3 m0 m1 m2 m3 m4 m5 m6 m7 m8 m9 m10 m11 m12 k0 k1 k2 k3 k4 k5 k6 k7 k8 k9
      have hbo := below_box w3 (.cells #[.int .i64 (O.s : Int), .int .i64 (O.g : Int), .int .i64 (O.u : Int), .int .i64 (O.m : Int)] 35)
      have hxo := Bx.new w3 #[.int .i64 (O.s : Int), .int .i64 (O.g : Int), .int .i64 (O.u : Int), .int .i64 (O.m : Int)] 35
      obtain ⟨V4, hV4⟩ : ∃ z, w3.alloc (.cells #[.int .i64 (O.s : Int), .int .i64 (O.g : Int), .int .i64 (O.u : Int), .int .i64 (O.m : Int)] 35) = z := ⟨_, rfl⟩
      rw [hV4] at hbo hxo
      have HV4 := Lib.hid hV4
      have HO4 := Lib.hid hxo
      have HX4 := Lib.hid (HXW.out.below hbo)
      have HZ4 := Lib.hid (HZW.out.below hbo)
      have HM4 := Lib.hid (HMW.out.below hbo)
      have HB4 := Lib.hid (below_2 HBW.out hbo)
      have hnm := HNM.out
      have hlm := HMW.out.lt
      have hne1 : w3.heap.size ≠ w.heap.size := by omega
      have hne2 : w.heap.size ≠ w3.heap.size := by omega
      have hne3 : wr.heap.size ≠ w.heap.size := by omega
      have hne4 : w.heap.size ≠ wr.heap.size := by omega
      have hne5 : w.heap.size + 1 ≠ w.heap.size := by omega
      have HNE3 := Lib.hid hne3
      have HNE5 := Lib.hid hne5
      obtain ⟨o0, o1, o2, o3, o4, o5, o6, o7⟩ := four_open HO4.out
      obtain ⟨k0, k1, k2, k3, k4, k5, k6, k7, k8, k9⟩ := five_open HX4.out
      obtain ⟨D, hD⟩ : ∃ D, c.add O = D := ⟨_, rfl⟩
      have hdl : D.le (c0.add (TT.add (exS s))) := by rw [← hD, HPt.out]; exact le_own HC.out
      obtain ⟨hd0, hd1, hd2, hd3⟩ := Bd.le hdl HBd2.out
      have g0 : (c.s : Int) + (O.s : Int) = (D.s : Int) := by rw [← hD]; exact (Int.natCast_add _ _).symm
      have g1 : (c.g : Int) + (O.g : Int) = (D.g : Int) := by rw [← hD]; exact (Int.natCast_add _ _).symm
      have g2 : (c.u : Int) + (O.u : Int) = (D.u : Int) := by rw [← hD]; exact (Int.natCast_add _ _).symm
      have g3 : (c.m : Int) + (O.m : Int) = (D.m : Int) := by rw [← hD]; exact (Int.natCast_add _ _).symm
      have ho0 : (O.s : Int) ≤ 16384 := by omega
      have ho1 : (O.g : Int) ≤ 16384 := by omega
      have ho2 : (O.u : Int) ≤ 16384 := by omega
      have ho3 : (O.m : Int) ≤ 16384 := by omega
      have HD := Lib.hid hD
      have HDl := Lib.hid hdl
      have hx5 := part_set HX4.out (.int .i64 (D.s : Int)) (.int .i64 (D.g : Int)) (.int .i64 (D.u : Int)) (.int .i64 (D.m : Int))
      have hz5 := part_keep HZ4.out hne5 (.int .i64 (D.s : Int)) (.int .i64 (D.g : Int)) (.int .i64 (D.u : Int)) (.int .i64 (D.m : Int))
      have hm5 := part_keep HM4.out hne3 (.int .i64 (D.s : Int)) (.int .i64 (D.g : Int)) (.int .i64 (D.u : Int)) (.int .i64 (D.m : Int))
      have hb5 := four_below HB4.out (Nat.le_refl _) (.int .i64 (D.s : Int)) (.int .i64 (D.g : Int)) (.int .i64 (D.u : Int)) (.int .i64 (D.m : Int))
      obtain ⟨V5, hV5⟩ : ∃ z, ((((V4.setCell ⟨w.heap.size, 0, none⟩ (.int .i64 (D.s : Int))).setCell ⟨w.heap.size, 1, none⟩ (.int .i64 (D.g : Int))).setCell ⟨w.heap.size, 2, none⟩ (.int .i64 (D.u : Int))).setCell ⟨w.heap.size, 3, none⟩ (.int .i64 (D.m : Int))) = z := ⟨_, rfl⟩
      rw [hV5] at hx5 hz5 hm5 hb5
      have HV5 := Lib.hid hV5
      have HX5 := Lib.hid hx5
      have HZ5 := Lib.hid hz5
      have HM5 := Lib.hid hm5
      have HB5 := Lib.hid hb5
      clear hbo hxo hV4 hnm hlm hD hdl hx5 hz5 hm5 hb5 hV5
      go_upto_region 6 with fail
      rw [HV4.out]
      go_upto_region 10 with fail
      rw [HV5.out]
      clear o0 o1 o2 o3 o4 o5 o6 o7 k0 k1 k2 k3 k4 k5 k6 k7 k8 k9 g0 g1 g2 g3 ho0 ho1 ho2 ho3 hne1 hne2 hne4 hs16 hg16 hu16 hm16 hlt3
      have r0 := HM5.out.cell 0
      have r2 := HM5.out.cell 2
      have r11 := HM5.out.cell 11
      have r12 := HM5.out.cell 12
      simp only [List.getElem?_toArray, List.getElem?_cons_zero, List.getElem?_cons_succ] at r0 r2 r11 r12
      obtain ⟨k0, k1, k2, k3, k4, k5, k6, k7, k8, k9⟩ := five_open HX5.out
      by_cases h5 : s.op = 5
      · have HPt5 : Hid (exS s = O.add ((exB s.body).mx (exB s.els))) := by show _ = _; rw [HPt.out, if_pos h5]
        rw [h5] at r0
        clear h5
        have hnx := rnext_any W0 D ca ch cq (2) ⟨by omega, by omega⟩ (by rw [HCn.out]; exact hcq) (by rw [HCn.out]; exact hcl) HCh.out V5 (below_2 HW0.out HB5.out)
        rw [HCn.out] at hnx
        unfold wkV wkC at hnx
        have HNx := Lib.hid hnx
        clear hnx
        go_wp2_with fail
        refine HNx.out.mono ?_; rintro e' w6 ⟨r, xa, xl, xq, rfl, ⟨hr0, hr1⟩, hxc, hxq, hxl, hb6⟩
        unfold wkV wkC
        have HXc := Lib.hid hxc
        have HX6 := Lib.hid (HX5.out.below hb6)
        have HZ6 := Lib.hid (HZ5.out.below hb6)
        have HM6 := Lib.hid (HM5.out.below hb6)
        have HB6 := Lib.hid (below_2 HB5.out hb6)
        clear hb6 hxc r0 r2 r11 r12 k0 k1 k2 k3 k4 k5 k6 k7 k8 k9
        obtain ⟨k0, k1, k2, k3, k4, k5, k6, k7, k8, k9⟩ := five_open HX6.out
        have hx := five_set HX6.out (.int .i64 (D.s : Int)) (.int .i64 (D.g : Int)) (.int .i64 (D.u : Int)) (.int .i64 (D.m : Int)) (.slice xa xl.length xq)
        have hz := five_keep HZ6.out HNE5.out (.int .i64 (D.s : Int)) (.int .i64 (D.g : Int)) (.int .i64 (D.u : Int)) (.int .i64 (D.m : Int)) (.slice xa xl.length xq)
        have hm := five_keep HM6.out HNE3.out (.int .i64 (D.s : Int)) (.int .i64 (D.g : Int)) (.int .i64 (D.u : Int)) (.int .i64 (D.m : Int)) (.slice xa xl.length xq)
        have hb := five_below HB6.out (Nat.le_refl _) (.int .i64 (D.s : Int)) (.int .i64 (D.g : Int)) (.int .i64 (D.u : Int)) (.int .i64 (D.m : Int)) (.slice xa xl.length xq)
        obtain ⟨V7, hV⟩ : ∃ z, (((((w6.setCell ⟨w.heap.size, 0, none⟩ (.int .i64 (D.s : Int))).setCell ⟨w.heap.size, 1, none⟩ (.int .i64 (D.g : Int))).setCell ⟨w.heap.size, 2, none⟩ (.int .i64 (D.u : Int))).setCell ⟨w.heap.size, 3, none⟩ (.int .i64 (D.m : Int))).setCell ⟨w.heap.size, 4, none⟩ (.slice xa xl.length xq)) = z := ⟨_, rfl⟩
        rw [hV] at hx hz hm hb
        have HV7 := Lib.hid hV
        have HX7 := Lib.hid hx
        have HZ7 := Lib.hid hz
        have HM7 := Lib.hid hm
        have HB7 := Lib.hid hb
        clear hx hz hm hb hV
        go_upto_region 14 with fail
        rw [HV7.out]
        clear k0 k1 k2 k3 k4 k5 k6 k7 k8 k9
        obtain ⟨k0, k1, k2, k3, k4, k5, k6, k7, k8, k9⟩ := five_open HX7.out
        have r11 := HM7.out.cell 11
        have r12 := HM7.out.cell 12
        simp only [List.getElem?_toArray, List.getElem?_cons_zero, List.getElem?_cons_succ] at r11 r12
        by_cases hr : r = 0
        · subst hr
          go_wp2_with fail
          refine (HBody.out D xa xl xq V7 (Bd.le (by rw [HPt5.out, ← HD.out]; exact le_in HC.out (Ct.le_mx1 _ _)) HBd2.out) hxq hxl HXc.out (below_2 HW0.out HB7.out)).mono ?_; rintro e' w8 ⟨c3, ya, yl, yq, rfl, hle3, hyc, hyq, hyl, hb8⟩
          unfold wkV wkC
          have HLe3 := Lib.hid hle3
          have HYc := Lib.hid hyc
          have HX8 := Lib.hid (HX7.out.below hb8)
          have HZ8 := Lib.hid (HZ7.out.below hb8)
          have HM8 := Lib.hid (HM7.out.below hb8)
          have HB8 := Lib.hid (below_2 HB7.out hb8)
          clear hb8 hle3 hyc k0 k1 k2 k3 k4 k5 k6 k7 k8 k9 r11 r12
          obtain ⟨k0, k1, k2, k3, k4, k5, k6, k7, k8, k9⟩ := five_open HX8.out
          have HL4 : Hid (c3.le (c0.add (TT.add (exS s)))) := by
            show Ct.le _ _
            rw [HPt5.out]
            refine le_body HC.out (Ct.le_mx1 _ _) ?_
            rw [HD.out]
            exact HLe3.out
          go_wp2_with fail
          go_roundw
          case rel => exact ⟨k + 1, c3, ya, yl, yl.length, yq, by omega, by go_num, by show Ct.le _ _; rw [HEk.out]; exact HL4.out, five_set HX8.out (.int .i64 (c3.s : Int)) (.int .i64 (c3.g : Int)) (.int .i64 (c3.u : Int)) (.int .i64 (c3.m : Int)) (.slice ya yl.length yq), five_keep HZ8.out HNE5.out (.int .i64 (c3.s : Int)) (.int .i64 (c3.g : Int)) (.int .i64 (c3.u : Int)) (.int .i64 (c3.m : Int)) (.slice ya yl.length yq), HYc.out, rfl, hyq, hyl, five_below HB8.out (Nat.le_refl _) (.int .i64 (c3.s : Int)) (.int .i64 (c3.g : Int)) (.int .i64 (c3.u : Int)) (.int .i64 (c3.m : Int)) (.slice ya yl.length yq)⟩
          case measure => simp [intOf]; omega
        · have br : (r == 0) = false := beq_eq_false_iff_ne.2 hr
          go_wp2_with fail
          refine (HEls.out D xa xl xq V7 (Bd.le (by rw [HPt5.out, ← HD.out]; exact le_in HC.out (Ct.le_mx2 _ _)) HBd2.out) hxq hxl HXc.out (below_2 HW0.out HB7.out)).mono ?_; rintro e' w8 ⟨c3, ya, yl, yq, rfl, hle3, hyc, hyq, hyl, hb8⟩
          unfold wkV wkC
          have HLe3 := Lib.hid hle3
          have HYc := Lib.hid hyc
          have HX8 := Lib.hid (HX7.out.below hb8)
          have HZ8 := Lib.hid (HZ7.out.below hb8)
          have HM8 := Lib.hid (HM7.out.below hb8)
          have HB8 := Lib.hid (below_2 HB7.out hb8)
          clear hb8 hle3 hyc k0 k1 k2 k3 k4 k5 k6 k7 k8 k9 r11 r12
          obtain ⟨k0, k1, k2, k3, k4, k5, k6, k7, k8, k9⟩ := five_open HX8.out
          have HL4 : Hid (c3.le (c0.add (TT.add (exS s)))) := by
            show Ct.le _ _
            rw [HPt5.out]
            refine le_body HC.out (Ct.le_mx2 _ _) ?_
            rw [HD.out]
            exact HLe3.out
          go_wp2_with fail
          go_roundw
          case rel => exact ⟨k + 1, c3, ya, yl, yl.length, yq, by omega, by go_num, by show Ct.le _ _; rw [HEk.out]; exact HL4.out, five_set HX8.out (.int .i64 (c3.s : Int)) (.int .i64 (c3.g : Int)) (.int .i64 (c3.u : Int)) (.int .i64 (c3.m : Int)) (.slice ya yl.length yq), five_keep HZ8.out HNE5.out (.int .i64 (c3.s : Int)) (.int .i64 (c3.g : Int)) (.int .i64 (c3.u : Int)) (.int .i64 (c3.m : Int)) (.slice ya yl.length yq), HYc.out, rfl, hyq, hyl, five_below HB8.out (Nat.le_refl _) (.int .i64 (c3.s : Int)) (.int .i64 (c3.g : Int)) (.int .i64 (c3.u : Int)) (.int .i64 (c3.m : Int)) (.slice ya yl.length yq)⟩
          case measure => simp [intOf]; omega
      by_cases h6 : s.op = 6
      · have HPt6 : Hid (exS s = O.add (Ct.mul s.mx.toNat ((exB s.body).add Ct.one))) := by show _ = _; rw [HPt.out, if_neg h5, if_pos h6]
        obtain ⟨hmx1, hmx2⟩ := HMx.out h6
        rw [h6] at r0
        clear h5 h6
        obtain ⟨mk, hmk⟩ : ∃ k, s.mx.toNat = k := ⟨_, rfl⟩
        obtain ⟨mi, hmi⟩ : ∃ k, s.mx = k := ⟨_, rfl⟩
        rw [hmk] at HPt6
        rw [hmi] at r2 hmk hmx1 hmx2
        clear hmi
        have hnx := rnext_any W0 D ca ch cq (mi + 1) ⟨by omega, by omega⟩ (by rw [HCn.out]; exact hcq) (by rw [HCn.out]; exact hcl) HCh.out V5 (below_2 HW0.out HB5.out)
        rw [HCn.out] at hnx
        unfold wkV wkC at hnx
        have HNx := Lib.hid hnx
        clear hnx
        go_wp2_with fail
        refine HNx.out.mono ?_; rintro e' w6 ⟨r, xa, xl, xq, rfl, ⟨hr0, hr1⟩, hxc, hxq, hxl, hb6⟩
        unfold wkV wkC
        have HXc := Lib.hid hxc
        have HX6 := Lib.hid (HX5.out.below hb6)
        have HZ6 := Lib.hid (HZ5.out.below hb6)
        have HM6 := Lib.hid (HM5.out.below hb6)
        have HB6 := Lib.hid (below_2 HB5.out hb6)
        clear hb6 hxc r0 r2 r11 r12 k0 k1 k2 k3 k4 k5 k6 k7 k8 k9
        obtain ⟨k0, k1, k2, k3, k4, k5, k6, k7, k8, k9⟩ := five_open HX6.out
        have hx := five_set HX6.out (.int .i64 (D.s : Int)) (.int .i64 (D.g : Int)) (.int .i64 (D.u : Int)) (.int .i64 (D.m : Int)) (.slice xa xl.length xq)
        have hz := five_keep HZ6.out HNE5.out (.int .i64 (D.s : Int)) (.int .i64 (D.g : Int)) (.int .i64 (D.u : Int)) (.int .i64 (D.m : Int)) (.slice xa xl.length xq)
        have hm := five_keep HM6.out HNE3.out (.int .i64 (D.s : Int)) (.int .i64 (D.g : Int)) (.int .i64 (D.u : Int)) (.int .i64 (D.m : Int)) (.slice xa xl.length xq)
        have hb := five_below HB6.out (Nat.le_refl _) (.int .i64 (D.s : Int)) (.int .i64 (D.g : Int)) (.int .i64 (D.u : Int)) (.int .i64 (D.m : Int)) (.slice xa xl.length xq)
        obtain ⟨V7, hV⟩ : ∃ z, (((((w6.setCell ⟨w.heap.size, 0, none⟩ (.int .i64 (D.s : Int))).setCell ⟨w.heap.size, 1, none⟩ (.int .i64 (D.g : Int))).setCell ⟨w.heap.size, 2, none⟩ (.int .i64 (D.u : Int))).setCell ⟨w.heap.size, 3, none⟩ (.int .i64 (D.m : Int))).setCell ⟨w.heap.size, 4, none⟩ (.slice xa xl.length xq)) = z := ⟨_, rfl⟩
        rw [hV] at hx hz hm hb
        have HV7 := Lib.hid hV
        have HX7 := Lib.hid hx
        have HZ7 := Lib.hid hz
        have HM7 := Lib.hid hm
        have HB7 := Lib.hid hb
        clear hx hz hm hb hV
        have hrk : r ≤ (mk : Int) := by omega
        have hr16 : r ≤ 16 := by omega
        clear hmk hmx1 hmx2 hr1
        go_upto_region 19 with fail
        rw [HV7.out]
        obtain ⟨mB, hmB⟩ : ∃ m, wr.heap.size = m := ⟨_, rfl⟩
        rw [hmB] at HM7 HNE3 ⊢
        clear hmB
        clear k0 k1 k2 k3 k4 k5 k6 k7 k8 k9
        go_wp2_with fail
        go_loopw [9] (fun s9 wq => ∃ (j : Nat) (e : Ct) (ya : Option Addr) (yl : List Int) (yn yq : Nat), (j : Int) ≤ r ∧ s9 = .int .i64 j ∧ Hid (e.le (D.add (Ct.mul j ((exB s.body).add Ct.one)))) ∧ Hid (Bx wq w.heap.size #[.int .i64 (e.s : Int), .int .i64 (e.g : Int), .int .i64 (e.u : Int), .int .i64 (e.m : Int), .slice ya yn yq] 37) ∧ Hid (Bx wq (w.heap.size + 1) #[.int .i64 0, .int .i64 0, .int .i64 0, .int .i64 0, .slice none 0 0] 37) ∧ Hid (Bx wq mB #[.int .i64 s.op, .string s.name, .int .i64 s.mx, .int .i64 s.a.op, .int .i64 s.a.n, .string s.a.s, .slice a1 s.a.args.length c1, .int .i64 s.b.op, .int .i64 s.b.n, .string s.b.s, .slice a2 s.b.args.length c2, .slice a3 s.body.length c3, .slice a4 s.els.length c4] 48) ∧ Hid (Chs W0 ya yl) ∧ Hid (yl.length = yn) ∧ yn ≤ yq ∧ yn ≤ 1000000000 ∧ Hid (Below w.heap.size w wq)) (fun s9 _ => (r - intOf s9).toNat)
        case atStart => exact ⟨0, D, xa, xl, xl.length, xq, hr0, rfl, by show Ct.le _ _; rw [Ct.mul_zero, Ct.add_z]; exact Ct.le.refl _, HX7.out, HZ7.out, HM7.out, HXc.out, rfl, hxq, hxl, HB7.out⟩
        case round =>
          clear HX7 HZ7 HM7 HB7 HXc HX6 HZ6 HM6 HB6 HX5 HZ5 HM5 HB5 HX4 HZ4 HM4 HB4 HNx
          obtain ⟨j, e, ya, yl, yn, yq, hj, rfl, HE, HX8, HZ8, HM8, HYc, HYn, hyq, hyl, HB8⟩ := hrel
          have hdm : (D.add (Ct.mul mk ((exB s.body).add Ct.one))).le (c0.add (TT.add (exS s))) := by
            rw [HPt6.out, ← HD.out]
            exact le_in HC.out (Ct.le.refl _)
          have hel : e.le (D.add (Ct.mul mk ((exB s.body).add Ct.one))) := HE.out.trans (le_mul D _ (by omega))
          obtain ⟨he0, he1, he2, he3⟩ := Bd.le (hel.trans hdm) HBd2.out
          have hl3 : decide ((e.s : Int) < 30000) = true := decide_eq_true (by omega)
          obtain ⟨k0, k1, k2, k3, k4, k5, k6, k7, k8, k9⟩ := five_open HX8.out
          have r11 := HM8.out.cell 11
          simp only [List.getElem?_toArray, List.getElem?_cons_zero, List.getElem?_cons_succ] at r11
          by_cases hjr : (j : Int) < r
          · have bj : decide ((j : Int) < r) = true := decide_eq_true hjr
            have hbd9 : Bd 16384 ((e.add Ct.one).add (exB s.body)) := Bd.le ((le_round HE.out).trans ((le_mul D _ (by omega)).trans hdm)) HBd2.out
            have hin := fun w' (h : Below W0.heap.size W0 w') => HBody.out (e.add Ct.one) ya yl yq w' hbd9 (by rw [HYn.out]; exact hyq) (by rw [HYn.out]; exact hyl) HYc.out h
            rw [HYn.out] at hin
            have hle9 := fun (c3 : Ct) (h : c3.le ((e.add Ct.one).add (exB s.body))) => h.trans (le_round HE.out)
            obtain ⟨E, hE⟩ : ∃ E, e.add Ct.one = E := ⟨_, rfl⟩
            rw [hE] at hin hbd9 hle9
            have q1 : E.s = e.s + 1 := by rw [← hE]; rfl
            have q2 : E.g = e.g := by rw [← hE]; rfl
            have q3 : E.u = e.u := by rw [← hE]; rfl
            have q4 : E.m = e.m := by rw [← hE]; rfl
            rw [q2, q3, q4] at hin
            have g0 : (e.s : Int) + 1 = (E.s : Int) := by omega
            have HIn := Lib.hid hin
            have HLe9 := Lib.hid hle9
            have hEs : (E.s : Int) ≤ 16384 := by obtain ⟨z, _, _, _⟩ := hbd9; simp only [Ct.add] at z; omega
            have hx := HX8.out.set 0 (u := .int .i64 (E.s : Int))
            have hz := HZ8.out.keep (Below.heap_setCell wr ⟨w.heap.size, 0, none⟩ (.int .i64 (E.s : Int)) (w.heap.size + 1) HNE5.out)
            have hm := HM8.out.keep (Below.heap_setCell wr ⟨w.heap.size, 0, none⟩ (.int .i64 (E.s : Int)) mB HNE3.out)
            have hb := HB8.out.setCell (p := ⟨w.heap.size, 0, none⟩) (Nat.le_refl _) (.int .i64 (E.s : Int))
            obtain ⟨V9, hV⟩ : ∃ z, wr.setCell ⟨w.heap.size, 0, none⟩ (.int .i64 (E.s : Int)) = z := ⟨_, rfl⟩
            rw [hV] at hx hz hm hb
            simp only [List.setIfInBounds_toArray, List.set_cons_zero] at hx
            have HV9 := Lib.hid hV
            have HX9 := Lib.hid hx
            have HZ9 := Lib.hid hz
            have HM9 := Lib.hid hm
            have HB9 := Lib.hid hb
            clear hx hz hm hb hV hin hle9 hbd9 hE q1 q2 q3 q4 hdm hel
            go_upto_region 23 with fail
            rw [HV9.out]
            clear k0 k1 k2 k3 k4 k5 k6 k7 k8 k9 r11 g0
            obtain ⟨k0, k1, k2, k3, k4, k5, k6, k7, k8, k9⟩ := five_open HX9.out
            have r11 := HM9.out.cell 11
            simp only [List.getElem?_toArray, List.getElem?_cons_zero, List.getElem?_cons_succ] at r11
            go_wp2_with fail
            refine (HIn.out _ (below_2 HW0.out HB9.out)).mono ?_; rintro e' w8 ⟨c3, za, zl, zq, rfl, hle3, hzc, hzq, hzl, hb8⟩
            unfold wkV wkC
            have HLe3 := Lib.hid (HLe9.out c3 hle3)
            have HZc := Lib.hid hzc
            have HX10 := Lib.hid (HX9.out.below hb8)
            have HZ10 := Lib.hid (HZ9.out.below hb8)
            have HM10 := Lib.hid (HM9.out.below hb8)
            have HB10 := Lib.hid (below_2 HB9.out hb8)
            clear hb8 hle3 hzc k0 k1 k2 k3 k4 k5 k6 k7 k8 k9 r11
            obtain ⟨k0, k1, k2, k3, k4, k5, k6, k7, k8, k9⟩ := five_open HX10.out
            go_wp2_with fail
            go_roundw
            case rel => exact ⟨j + 1, c3, za, zl, zl.length, zq, by omega, by go_num, HLe3.out, five_set HX10.out (.int .i64 (c3.s : Int)) (.int .i64 (c3.g : Int)) (.int .i64 (c3.u : Int)) (.int .i64 (c3.m : Int)) (.slice za zl.length zq), five_keep HZ10.out HNE5.out (.int .i64 (c3.s : Int)) (.int .i64 (c3.g : Int)) (.int .i64 (c3.u : Int)) (.int .i64 (c3.m : Int)) (.slice za zl.length zq), five_keep HM10.out HNE3.out (.int .i64 (c3.s : Int)) (.int .i64 (c3.g : Int)) (.int .i64 (c3.u : Int)) (.int .i64 (c3.m : Int)) (.slice za zl.length zq), HZc.out, rfl, hzq, hzl, five_below HB10.out (Nat.le_refl _) (.int .i64 (c3.s : Int)) (.int .i64 (c3.g : Int)) (.int .i64 (c3.u : Int)) (.int .i64 (c3.m : Int)) (.slice za zl.length zq)⟩
            case measure => simp [intOf]; omega
          · have bj : decide ((j : Int) < r) = false := decide_eq_false hjr
            have HL4 : Hid (e.le (c0.add (TT.add (exS s)))) := hel.trans hdm
            clear hdm hel
            go_wp2_with fail
            go_roundw
            case rel => exact ⟨k + 1, e, ya, yl, yn, yq, by omega, by go_num, by show Ct.le _ _; rw [HEk.out]; exact HL4.out, HX8.out, HZ8.out, HYc.out, HYn.out, hyq, hyl, HB8.out⟩
            case measure => simp [intOf]; omega
      have b5 : (s.op == 5) = false := beq_eq_false_iff_ne.2 h5
      have b6 : (s.op == 6) = false := beq_eq_false_iff_ne.2 h6
      clear h5 h6
      go_wp2_with fail
      go_roundw
      case rel => exact ⟨k + 1, D, ca, ch, cn, cq, by omega, by go_num, by show Ct.le _ _; rw [HEk.out]; exact HDl.out, HX5.out, HZ5.out, HCh.out, HCn.out, hcq, hcl, HB5.out⟩
      case measure => simp [intOf]; omega
    · have HLe : Hid (c.le CC) := by
        have h := HC.out
        rw [List.take_of_length_le (by rw [HL.out]; omega), HCC.out] at h
        exact h
      have hz := five_set HZ.out (.int .i64 (c.s : Int)) (.int .i64 (c.g : Int)) (.int .i64 (c.u : Int)) (.int .i64 (c.m : Int)) (.slice ca cn cq)
      obtain ⟨d0, d1, d2, d3, d4, d5, d6, d7, d8, d9⟩ := five_open HZ.out
      have q0 := hz.cell 0
      have q1 := hz.cell 1
      have q2 := hz.cell 2
      have q3 := hz.cell 3
      have q4 := hz.cell 4
      simp only [List.getElem?_toArray, List.getElem?_cons_zero, List.getElem?_cons_succ] at q0 q1 q2 q3 q4
      have HV : Hid (GivesP W0 CC w (.returned (.agg #[.int .i64 (c.s : Int), .int .i64 (c.g : Int), .int .i64 (c.u : Int), .int .i64 (c.m : Int), .slice ca cn cq])) (((((wr.setCell ⟨w.heap.size + 1, 0, none⟩ (.int .i64 (c.s : Int))).setCell ⟨w.heap.size + 1, 1, none⟩ (.int .i64 (c.g : Int))).setCell ⟨w.heap.size + 1, 2, none⟩ (.int .i64 (c.u : Int))).setCell ⟨w.heap.size + 1, 3, none⟩ (.int .i64 (c.m : Int))).setCell ⟨w.heap.size + 1, 4, none⟩ (.slice ca cn cq))) :=
        ⟨c, ca, ch, cq, by rw [HCn.out]; rfl, HLe.out, HCh.out, by rw [HCn.out]; exact hcq, by rw [HCn.out]; exact hcl, five_below HB.out (Nat.le_succ _) _ _ _ _ _⟩
      clear hz
      go_wp2_with fail
      refine bodyPost_ret (v := .agg #[.int .i64 (c.s : Int), .int .i64 (c.g : Int), .int .i64 (c.u : Int), .int .i64 (c.m : Int), .slice ca cn cq]) (by simp [results, Tryd.results14, go_sem, q0, q1, q2, q3, q4]) rfl ?_
      exact HV.out
end Go.Proofs.YtkjefigebdbkaaaDoor.Q
namespace Go.Proofs.YtkjefigebdbkaaaDoor.Q
open Go.RowKit
open A (Ex St Pr Bx okE okEs okB okS cE cB cS Bodies OkP PrIn prV prO small)
open L (below_2 below_box ret_bool ret_int)
/-- an accepted procedure's counts are its exact ones, below the limits -/
theorem cost_in {p : Pr} (h : costE (cst p) (N.checkN p) = 0) : N.checkN p = 0 ∧ cst p = Ci.of (exB p.body) ∧ (exB p.body).s ≤ 16384 ∧ (exB p.body).g ≤ 64 ∧ (exB p.body).u ≤ 64 ∧ (exB p.body).m ≤ 16 := by
  unfold costE at h
  by_cases h0 : N.checkN p = 0
  · rw [if_neg (fun z => z h0)] at h
    have hc : cst p = Ci.of (exB p.body).cut := by unfold cst; rw [if_neg (fun z => z h0)]
    rw [hc] at h
    unfold Ci.of Ct.cut at h
    dsimp only at h
    by_cases h1 : (16384 : Int) < ((min (exB p.body).s 16385 : Nat) : Int)
    · rw [if_pos h1] at h; cases h
    · rw [if_neg h1] at h
      by_cases h2 : 64 < ((min (exB p.body).g 16385 : Nat) : Int) ∨ 64 < ((min (exB p.body).u 16385 : Nat) : Int) ∨ 16 < ((min (exB p.body).m 16385 : Nat) : Int)
      · rw [if_pos h2] at h; cases h
      · refine ⟨h0, ?_, by omega, by omega, by omega, by omega⟩
        rw [hc, Ct.cut_id (by omega)]
  · rw [if_pos h0] at h; exact absurd h h0
set_option maxHeartbeats 8000000 in
set_option maxRecDepth 100000 in
theorem lawBounds_any (p : Pr) (a1 a2 : Option Addr) (c1 c2 : Nat) (hok : OkP p) (hc1 : p.params.length ≤ c1) (ch : List Int) (ca : Option Addr) (cq : Nat) (hq : ch.length ≤ cq) (w : World) (ht : Y.Tb w) (hK : PrIn w p a1 a2) (hch : Chs w ca ch) :
    Calls Tryd.prog 4 #[prV p a1 c1 a2 c2, .slice ca ch.length cq] w fun e' w' => e' = .returned (.bool true) ∧ Below w.heap.size w w' := by
  obtain ⟨W1, e1⟩ : ∃ z, z = w.alloc (.cells #[.string p.name, .slice a1 p.params.length c1, .slice a2 p.body.length c2] 25) := ⟨_, rfl⟩
  have bb1 : Below w.heap.size w W1 := by rw [e1]; exact below_box _ _
  have xx1 := Bx.new w #[.string p.name, .slice a1 p.params.length c1, .slice a2 p.body.length c2] 25
  rw [← e1] at xx1
  have s1 : W1.heap.size = w.heap.size + 1 := by rw [e1]; simp
  have HB := Lib.hid bb1
  have HX := Lib.hid xx1
  have HW : Hid (w.alloc (.cells #[.string p.name, .slice a1 p.params.length c1, .slice a2 p.body.length c2] 25) = W1) := by show _ = _; rw [← e1]
  have HS := Lib.hid (A.rsmall_any p a1 c1 a2 c2 150 (by omega) hok W1 (hK.below HB.out))
  have HLv : Hid (∀ wk, Below W1.heap.size W1 wk → Calls Tryd.prog 13 #[] wk fun e' w' => e' = .returned (.bool true) ∧ Below w.heap.size w w') := fun wk hk => (lives_any wk (ht.below (below_2 HB.out hk))).mono fun e' w' h => ⟨h.1, below_2 (below_2 HB.out hk) h.2⟩
  have HCk : Hid (∀ wk, Below W1.heap.size W1 wk → Calls Tryd.prog 12 #[prV p a1 c1 a2 c2] wk fun e' w' => e' = .returned (.int .i64 (costE (cst p) (N.checkN p))) ∧ Below wk.heap.size wk w') := fun wk hk => oCost_any p a1 a2 c1 c2 hok hc1 wk (ht.below (below_2 HB.out hk)) (hK.below (below_2 HB.out hk))
  have HOf : Hid (∀ wk, Below W1.heap.size W1 wk → Calls Tryd.prog 15 #[prV p a1 c1 a2 c2] wk fun e' w' => e' = .returned (ciV (cst p)) ∧ Below wk.heap.size wk w') := fun wk hk => lof_any p a1 a2 c1 c2 hok hc1 wk (ht.below (below_2 HB.out hk)) (hK.below (below_2 HB.out hk))
  have HPa : Hid (costE (cst p) (N.checkN p) = 0 → ch.length ≤ 200 → ∀ wk, Below W1.heap.size W1 wk → Calls Tryd.prog 14 #[.agg #[.int .i64 0, .int .i64 0, .int .i64 0, .int .i64 0, .slice ca ch.length cq], .slice a2 p.body.length c2] wk fun e' w' => GivesP w (exB p.body) wk e' w') := fun h h2 wk hk => by
    obtain ⟨g0, -, g1, g2, g3, g4⟩ := cost_in h
    have hz : Ct.z.add (exB p.body) = exB p.body := Ct.z_add _
    have := path_any p.body w Ct.z ca ch cq a2 c2 wk hok.bodyLen hok.body (go_val (val_of g0)) (by have := N.val_cB (val_of g0); omega) (by rw [hz]; exact ⟨by omega, by omega, by omega, by omega⟩) hq (by omega) hch hK.body (below_2 HB.out hk)
    rw [hz] at this
    exact this
  have HCo : Hid (costE (cst p) (N.checkN p) = 0 → N.checkN p = 0 ∧ cst p = Ci.of (exB p.body) ∧ (exB p.body).s ≤ 16384 ∧ (exB p.body).g ≤ 64 ∧ (exB p.body).u ≤ 64 ∧ (exB p.body).m ≤ 16) := fun h => cost_in h
  unfold prV at HS HCk HOf ⊢
  obtain ⟨cn, hcn⟩ : ∃ n, ch.length = n := ⟨_, rfl⟩
  rw [hcn] at HPa hq ⊢
  clear e1 bb1 xx1 s1 hok hc1 ht hK hch hcn
  generalize small p 150 = sm at *
  cases sm
  · go_enter Tryd.func4, Tryd.ntmps4
    go_wp2_with fail
    rw [HW.out]
    have x0 := HX.out.cell 0
    have x1 := HX.out.cell 1
    have x2 := HX.out.cell 2
    simp only [List.getElem?_toArray, List.getElem?_cons_zero, List.getElem?_cons_succ] at x0 x1 x2
    go_wp2_with fail
    refine HS.out.mono ?_; rintro e' w2 ⟨rfl, hb2⟩
    have HB2 := Lib.hid hb2
    clear hb2 x0 x1 x2
    go_wp2_with fail
    refine (HLv.out _ HB2.out).mono ?_; rintro e' w9 ⟨rfl, hb9⟩
    have HB9 := Lib.hid hb9
    clear hb9
    go_wp2_with fail
    go_ret
    exact ⟨rfl, HB9.out⟩
  by_cases hcl : 200 < cn
  · have b1 : decide ((200 : Int) < (cn : Int)) = true := decide_eq_true (by omega)
    go_enter Tryd.func4, Tryd.ntmps4
    go_wp2_with fail
    rw [HW.out]
    have x0 := HX.out.cell 0
    have x1 := HX.out.cell 1
    have x2 := HX.out.cell 2
    simp only [List.getElem?_toArray, List.getElem?_cons_zero, List.getElem?_cons_succ] at x0 x1 x2
    go_wp2_with fail
    refine HS.out.mono ?_; rintro e' w2 ⟨rfl, hb2⟩
    have HB2 := Lib.hid hb2
    clear hb2 x0 x1 x2
    go_wp2_with fail
    refine (HLv.out _ HB2.out).mono ?_; rintro e' w9 ⟨rfl, hb9⟩
    have HB9 := Lib.hid hb9
    clear hb9
    go_wp2_with fail
    go_ret
    exact ⟨rfl, HB9.out⟩
  have b1 : decide ((200 : Int) < (cn : Int)) = false := decide_eq_false (by omega)
  by_cases hE : costE (cst p) (N.checkN p) = 0
  case neg =>
    have b4 : (costE (cst p) (N.checkN p) != 0) = true := bne_iff_ne.2 hE
    generalize costE (cst p) (N.checkN p) = E at *
    clear hE
    go_enter Tryd.func4, Tryd.ntmps4
    go_wp2_with fail
    rw [HW.out]
    have x0 := HX.out.cell 0
    have x1 := HX.out.cell 1
    have x2 := HX.out.cell 2
    simp only [List.getElem?_toArray, List.getElem?_cons_zero, List.getElem?_cons_succ] at x0 x1 x2
    go_wp2_with fail
    refine HS.out.mono ?_; rintro e' w2 ⟨rfl, hb2⟩
    have HB2 := Lib.hid hb2
    clear hb2 x0 x1 x2
    have y0 := (HX.out.below HB2.out).cell 0
    have y1 := (HX.out.below HB2.out).cell 1
    have y2 := (HX.out.below HB2.out).cell 2
    simp only [List.getElem?_toArray, List.getElem?_cons_zero, List.getElem?_cons_succ] at y0 y1 y2
    go_wp2_with fail
    refine (HCk.out _ HB2.out).mono ?_; rintro e' w3 ⟨rfl, hb3⟩
    have HB3 := Lib.hid (below_2 HB2.out hb3)
    clear hb3 y0 y1 y2
    go_wp2_with fail
    refine (HLv.out _ HB3.out).mono ?_; rintro e' w9 ⟨rfl, hb9⟩
    have HB9 := Lib.hid hb9
    clear hb9
    go_wp2_with fail
    go_ret
    exact ⟨rfl, HB9.out⟩
  have HPa2 := Lib.hid (HPa.out hE (by omega))
  obtain ⟨g0, g1, g2, g3, g4, g5⟩ := HCo.out hE
  rw [hE] at HCk
  rw [g1] at HOf
  unfold ciV Ci.of at HOf
  generalize exB p.body = X at *
  obtain ⟨u0, u1, u2, u3⟩ := X
  dsimp only at HOf g2 g3 g4 g5
  clear HPa HCo hE g0 g1
  have t0 : decide ((u0 : Int) ≤ 16384) = true := decide_eq_true (by omega)
  have t1 : decide ((u1 : Int) ≤ 64) = true := decide_eq_true (by omega)
  have t2 : decide ((u2 : Int) ≤ 64) = true := decide_eq_true (by omega)
  have t3 : decide ((u3 : Int) ≤ 16) = true := decide_eq_true (by omega)
  go_enter Tryd.func4, Tryd.ntmps4
  go_wp2_with fail
  rw [HW.out]
  have x0 := HX.out.cell 0
  have x1 := HX.out.cell 1
  have x2 := HX.out.cell 2
  simp only [List.getElem?_toArray, List.getElem?_cons_zero, List.getElem?_cons_succ] at x0 x1 x2
  go_wp2_with fail
  refine HS.out.mono ?_; rintro e' w2 ⟨rfl, hb2⟩
  have HB2 := Lib.hid hb2
  clear hb2 x0 x1 x2
  have y0 := (HX.out.below HB2.out).cell 0
  have y1 := (HX.out.below HB2.out).cell 1
  have y2 := (HX.out.below HB2.out).cell 2
  simp only [List.getElem?_toArray, List.getElem?_cons_zero, List.getElem?_cons_succ] at y0 y1 y2
  go_wp2_with fail
  refine (HCk.out _ HB2.out).mono ?_; rintro e' w3 ⟨rfl, hb3⟩
  have HB3 := Lib.hid (below_2 HB2.out hb3)
  clear hb3 y0 y1 y2
  have y0 := (HX.out.below HB3.out).cell 0
  have y1 := (HX.out.below HB3.out).cell 1
  have y2 := (HX.out.below HB3.out).cell 2
  simp only [List.getElem?_toArray, List.getElem?_cons_zero, List.getElem?_cons_succ] at y0 y1 y2
  go_wp2_with fail
  refine (HPa2.out _ HB3.out).mono ?_; rintro e' w4 ⟨⟨v0, v1, v2, v3⟩, xa, xl, xq, rfl, hle, hxc, hxq, hxl, hb4⟩
  obtain ⟨l0, l1, l2, l3⟩ := hle
  dsimp only at l0 l1 l2 l3
  unfold wkV wkC
  dsimp only
  have d0 : decide (v0 ≤ u0) = true := decide_eq_true l0
  have d1 : decide (v1 ≤ u1) = true := decide_eq_true l1
  have d2 : decide (v2 ≤ u2) = true := decide_eq_true l2
  have d3 : decide (v3 ≤ u3) = true := decide_eq_true l3
  have hb5 := below_box w4 (.cells #[.int .i64 (v0 : Int), .int .i64 (v1 : Int), .int .i64 (v2 : Int), .int .i64 (v3 : Int), .slice xa xl.length xq] 37)
  have hx5 := Bx.new w4 #[.int .i64 (v0 : Int), .int .i64 (v1 : Int), .int .i64 (v2 : Int), .int .i64 (v3 : Int), .slice xa xl.length xq] 37
  obtain ⟨W5, hW5⟩ : ∃ z, w4.alloc (.cells #[.int .i64 (v0 : Int), .int .i64 (v1 : Int), .int .i64 (v2 : Int), .int .i64 (v3 : Int), .slice xa xl.length xq] 37) = z := ⟨_, rfl⟩
  rw [hW5] at hb5 hx5
  have HW5 := Lib.hid hW5
  have HX5 := Lib.hid hx5
  have HB5 := Lib.hid (below_2 HB3.out (below_2 hb4 hb5))
  clear hb4 hb5 hx5 hW5 y0 y1 y2 hxc hxq hxl l0 l1 l2 l3
  go_upto_region 4 with fail
  rw [HW5.out]
  have y0 := (HX.out.below HB5.out).cell 0
  have y1 := (HX.out.below HB5.out).cell 1
  have y2 := (HX.out.below HB5.out).cell 2
  simp only [List.getElem?_toArray, List.getElem?_cons_zero, List.getElem?_cons_succ] at y0 y1 y2
  go_wp2_with fail
  refine (HOf.out _ HB5.out).mono ?_; rintro e' w6 ⟨rfl, hb6⟩
  have hb7 := below_box w6 (.cells #[.int .i64 (u0 : Int), .int .i64 (u1 : Int), .int .i64 (u2 : Int), .int .i64 (u3 : Int)] 35)
  have hx7 := Bx.new w6 #[.int .i64 (u0 : Int), .int .i64 (u1 : Int), .int .i64 (u2 : Int), .int .i64 (u3 : Int)] 35
  have hx8 := (HX5.out.below hb6).below hb7
  obtain ⟨W7, hW7⟩ : ∃ z, w6.alloc (.cells #[.int .i64 (u0 : Int), .int .i64 (u1 : Int), .int .i64 (u2 : Int), .int .i64 (u3 : Int)] 35) = z := ⟨_, rfl⟩
  rw [hW7] at hb7 hx7 hx8
  have HW7 := Lib.hid hW7
  have HB7 := Lib.hid (below_2 HB5.out (below_2 hb6 hb7))
  obtain ⟨q0, q1, q2, q3, q4, q5, q6, q7⟩ := four_open hx7
  obtain ⟨s0, s1, s2, s3, s4, s5, s6, s7, s8, s9⟩ := five_open hx8
  clear hb6 hb7 hx7 hx8 hW7 y0 y1 y2
  go_upto_region 5 with fail
  rw [HW7.out]
  go_wp2_with fail
  refine (HLv.out _ HB7.out).mono ?_; rintro e' w9 ⟨rfl, hb9⟩
  have HB9 := Lib.hid hb9
  clear hb9
  go_wp2_with fail
  go_ret
  exact ⟨rfl, HB9.out⟩
end Go.Proofs.YtkjefigebdbkaaaDoor.Q
namespace Go.Proofs.YtkjefigebdbkaaaDoor.Q
open Go.ChangeShapes Go.WideShapes Go.ChangeAt Go.WideMaps Go.WideElems Go.RowKit Go.Joins
section
variable {H : Type} {enc : TypeId × Value → H} {w : World} {base b0 : Nat} {spare : Nat → Bool} {held : Bool}
theorem cellsI : Tryd.prog.cellsOf 3 = 1 := by kernel_rfl
set_option maxRecDepth 100000 in
/-- a list of integers as an argument -/
theorem open_ints {v : Value} {d : DataW H} {p : List MemPlace} (hv : Value.okWide Tryd.prog w .any b0 31 v) (h : DataW.Trod enc Tryd.prog w base spare held 31 v d p) :
    ∃ (l : List Int) (a : Option Addr) (c : Nat), v = .slice a l.length c ∧ Chs w a l ∧ l.length ≤ c := by
  obtain ⟨a0, len, cap, rfl⟩ := okWide_slice Tryd.underlying31 hv
  obtain ⟨fuel, hf⟩ := h
  rcases Go.ChangeShapes.open_ints Tryd.underlying31 Tryd.underlying3 cellsI hf with ⟨hcs, hx⟩ | ⟨a, len', cap', zs, hcs, _, hl, hm, hz, hx, hc, _⟩
  · simp [Value.cells] at hcs
    obtain ⟨rfl, rfl, rfl⟩ := hcs
    exact ⟨[], none, 0, rfl, Or.inl rfl, Nat.le_refl _⟩
  · simp [Value.cells] at hcs
    obtain ⟨rfl, rfl, rfl⟩ := hcs
    have hzl : len ≤ zs.length := by rw [hz]; split <;> omega
    by_cases h0 : len = 0
    · exact ⟨[], some a, cap, by rw [h0]; rfl, Or.inl rfl, Nat.zero_le _⟩
    · obtain ⟨b, off, rfl, hat⟩ := ints_at hc (by omega)
      have hlt : (zs.take len).length = len := by rw [List.length_take]; omega
      refine ⟨zs.take len, some ⟨b, off, none⟩, cap, by rw [hlt], Or.inr ⟨b, off, rfl, fun j hj => ?_⟩, by omega⟩
      have h1 := hat j (by omega)
      rw [h1, List.getElem_take]
      simp [List.getD, List.getElem?_eq_getElem (show j < zs.length by omega)]
end
end Go.Proofs.YtkjefigebdbkaaaDoor.Q
