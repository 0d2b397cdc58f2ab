/-
  The law package of layer 14: touches, closed: contracts.
-/
import Derived.Test.YtnelpgeiioflmaaGreatDoorSFRE
import Derived.Test.YtnelpgeiioflmaaGreatDoorM24
import Derived.Test.YtnelpgeiioflmaaGreatDoorM07
namespace Go.Proofs.YtnelpgeiioflmaaGreatDoor.F
open Go.RowKit
open L (Str isName prt size_len below_2 below_box ret_bool ret_int eql_eq bytes_eq)
open A (Ex St Pm Pr exV exO exV_mk Bx okE okEs okB okS StrsAt PrIn OkP prV prO exprs GivesXs walk)
open Y (isIn isIn_iff isIn_no)

set_option maxHeartbeats 4000000 in
set_option maxRecDepth 100000 in
theorem ltouches_any (p : Pr) (a1 a2 : Option Addr) (c1 c2 : Nat) (hok : OkP p) (w : World) (hK : PrIn w p a1 a2) :
    Calls Tryz.prog 24 #[prV p a1 c1 a2 c2] w fun e' w' => e' = .returned (.bool ((exprs p).any (tE no))) ∧ Below w.heap.size w w' := by
  have hb := below_box w (prO p a1 c1 a2 c2)
  have hbx := Bx.new w #[.string p.name, .slice a1 p.params.length c1, .slice a2 p.body.length c2] 25
  have HC := Lib.hid (A.rexprs_any p a1 a2 c1 c2 hok.body hok.bodyLen _ (hK.below hb).body)
  have hoe : ∀ x ∈ exprs p, okE x := fun x hx => by
    obtain ⟨v, hv, he⟩ := List.mem_filterMap.1 hx
    have := ok_walkV hok.body v hv
    cases v with
    | st s d => cases he
    | ex e r =>
      rw [A.V.rooted] at he
      split at he
      · injection he with he
        subst he
        exact this
      · cases he
  have hxl : (exprs p).length ≤ 401 := by
    refine Nat.le_trans (List.length_filterMap_le _ _) ?_
    unfold walk; rw [List.length_take]; omega
  have HOE := Lib.hid hoe
  have HB := Lib.hid hb
  have HX := Lib.hid hbx
  have HR0 : Hid (((exprs p).drop 0).any (tE no) = (exprs p).any (tE no)) := rfl
  generalize (exprs p).any (tE no) = R at *
  generalize exprs p = l at *
  obtain ⟨m, hm⟩ : ∃ m, p.params.length = m := ⟨_, rfl⟩
  unfold prO at *
  unfold prV at *
  rw [hm] at HC HB HX ⊢
  clear hb hbx hok hK hm hoe
  have x0 := HX.out.cell 0
  have x1 := HX.out.cell 1
  have x2 := HX.out.cell 2
  simp only [List.getElem?_toArray, List.getElem?_cons_zero, List.getElem?_cons_succ] at x0 x1 x2
  go_enter Tryz.func24, Tryz.ntmps24
  go_wp2_with fail
  refine HC.out.mono ?_; rintro e' w2 ⟨pl, ql, rfl, hkl, hb2⟩
  have HK2 := Lib.hid hkl
  have HB2 := Lib.hid (below_2 HB.out hb2)
  obtain ⟨g, hg⟩ : ∃ g, l.length = g := ⟨_, rfl⟩
  have HL := Lib.hid hg
  rw [hg] at hxl ⊢
  clear hkl hb2 hg x0 x1 x2
  go_wp2_with fail
  go_loopw [4] (fun s4 wr => ∃ k : Nat, k ≤ g ∧ s4 = .int .i64 k ∧ Hid ((l.drop k).any (tE no) = R) ∧ Hid (Below w2.heap.size w2 wr)) (fun s4 _ => g - (intOf s4).toNat)
  case atStart => exact ⟨0, Nat.zero_le _, rfl, HR0, Below.refl _ _⟩
  case round =>
    obtain ⟨k, hk, rfl, HX2, HBr⟩ := hrel
    by_cases hlt : k < g
    · have hlx : k < l.length := by rw [HL.out]; exact hlt
      obtain ⟨b2, i2, rfl, hat⟩ := (HK2.out.below HBr.out).open hlx
      obtain ⟨d0, d1, d2, a2', cc, d3, hk2⟩ := hat.open
      have HCC := Lib.hid (lreads_any (ns := []) (Nat.zero_le _) l[k] a2' cc none 0 wr (HOE.out _ (List.getElem_mem hlx)) (Or.inl rfl) hk2)
      rw [mem_nil] at HCC
      have hG := HX2.out
      rw [List.drop_eq_getElem_cons hlx, List.any_cons] at hG
      clear hat hk2
      unfold exV at HCC
      generalize tE no l[k] = y at HCC hG
      generalize l[k].args.length = m2 at d3 HCC
      generalize l[k].op = o2 at d0 HCC
      generalize l[k].n = n2 at d1 HCC
      generalize l[k].s = s2 at d2 HCC
      cases y with
      | true =>
        have HV : Hid (true = R) := hG
        clear hG
        go_wp2_with fail
        refine HCC.out.mono ?_; rintro e w5 ⟨rfl, hb5⟩
        have HB5 := Lib.hid (below_2 HB2.out (below_2 HBr.out hb5))
        clear hb5
        go_wp2_with fail
        go_ret
        exact ⟨ret_bool HV.out, HB5.out⟩
      | false =>
        have HG3 : Hid ((l.drop (k + 1)).any (tE no) = R) := hG
        clear hG
        go_wp2_with fail
        refine HCC.out.mono ?_; rintro e w5 ⟨rfl, hb5⟩
        have HB5 := Lib.hid (below_2 HBr.out hb5)
        clear hb5
        go_wp2_with fail
        go_roundw
        case rel => exact ⟨k + 1, by omega, by go_num, HG3, HB5.out⟩
        case measure => simp [intOf]; omega
    · have hG := HX2.out
      rw [List.drop_of_length_le (by have := HL.out; omega)] at hG
      have HV : Hid (false = R) := hG
      clear hG
      go_wp2_with fail
      go_ret
      exact ⟨ret_bool HV.out, below_2 HB2.out HBr.out⟩
theorem lcB_drop {T : ByteArray → Bool} {u : Bool} {l : List St} {k : Nat} (hk : k < l.length) : lcB T u (l.drop k) = (lcS T u l[k] && lcB T u (l.drop (k + 1))) := by rw [List.drop_eq_getElem_cons hk, lcB]
theorem lcS_open (T : ByteArray → Bool) (u : Bool) (s : St) : lcS T u s = (!(here T u s.op s.a s.b && (decide (s.op = 1) || decide (s.op = 2) || decide (s.op = 6)) && !T s.name) && lcB T (here T u s.op s.a s.b) s.body && lcB T (here T u s.op s.a s.b) s.els) := by
  obtain ⟨o, nm, mx, a, b, bd, el⟩ := s
  rw [lcS]; rfl
def QC (ns : List ByteArray) (l : List St) : Prop := ∀ (a : Option Addr) (c : Nat) (la : Option Addr) (lc : Nat) (u : Bool) (w : World), okB l → l.length ≤ 1000000000000000 → StrsAt w la ns → A.Bodies w a l →
  Calls Tryz.prog 21 #[.slice a l.length c, .slice la ns.length lc, .bool u] w fun e' w' => e' = .returned (.bool (lcB (mem ns) u l)) ∧ Below w.heap.size w w'
set_option maxHeartbeats 16000000 in
set_option maxRecDepth 100000 in
theorem lclosed_step {ns : List ByteArray} (hns : ns.length ≤ 1000000000000000) {l : List St} (hq : ∀ j (h : j < l.length), QC ns (l[j]).body ∧ QC ns (l[j]).els) : QC ns l := by
  intro a c la lc u w hok hl hS hK
  have HST := Lib.hid hq
  have HOK := Lib.hid hok
  have HK := Lib.hid hK
  obtain ⟨R, hR⟩ : ∃ R, lcB (mem ns) u l = R := ⟨_, rfl⟩
  rw [hR]
  have HR : Hid (lcB (mem ns) u (l.drop 0) = R) := hR
  have HS0 := Lib.hid hS
  obtain ⟨m, hm⟩ : ∃ m, l.length = m := ⟨_, rfl⟩
  have HL := Lib.hid hm
  rw [hm] at hl ⊢
  have HNS := Lib.hid hns
  clear hm hR hS hK hq hok hns
  obtain ⟨nn, hnn⟩ : ∃ n, ns.length = n := ⟨_, rfl⟩
  have HNN := Lib.hid hnn
  rw [hnn]
  clear hnn
  go_enter Tryz.func21, Tryz.ntmps21
  go_wp2_with fail
  go_loopw [7] (fun s7 wr => ∃ k : Nat, k ≤ m ∧ s7 = .int .i64 k ∧ Hid (lcB (mem ns) u (l.drop k) = R) ∧ Hid (Below w.heap.size w wr)) (fun i _ => m - (intOf i).toNat)
  case atStart => exact ⟨0, Nat.zero_le _, rfl, HR, Below.refl _ _⟩
  case round =>
    obtain ⟨k, hk, rfl, HX, HBr⟩ := hrel
    by_cases hlt : k < m
    · have hlx : k < l.length := by rw [HL.out]; exact hlt
      obtain ⟨b3, i3, rfl, hat⟩ := HK.out.open hlx
      obtain ⟨a1, c1, a2, c2, a3, c3, a4, c4, hcc0, hkk⟩ := hat.open
      have hcc := hcc0.below HBr.out
      have hoks := A.okS_open (HOK.out.get k hlx)
      have hx := HX.out
      rw [lcB_drop hlx, lcS_open] at hx
      obtain ⟨hqb, hqe⟩ := HST.out k hlx
      have TA : Hid (∀ wk, Below wr.heap.size wr wk → Calls Tryz.prog 47 #[exV (l[k]).a a1 c1, .slice la nn lc] wk fun e' w' => e' = .returned (.bool (tE (mem ns) (l[k]).a)) ∧ Below wk.heap.size wk w') := fun wk hb => by
        rw [← HNN.out]
        exact lreads_any HNS.out (l[k]).a a1 c1 la lc wk hoks.a ((HS0.out.below HBr.out).below hb) ((hkk.a.below HBr.out).below hb)
      have TB : Hid (∀ wk, Below wr.heap.size wr wk → Calls Tryz.prog 47 #[exV (l[k]).b a2 c2, .slice la nn lc] wk fun e' w' => e' = .returned (.bool (tE (mem ns) (l[k]).b)) ∧ Below wk.heap.size wk w') := fun wk hb => by
        rw [← HNN.out]
        exact lreads_any HNS.out (l[k]).b a2 c2 la lc wk hoks.b ((HS0.out.below HBr.out).below hb) ((hkk.b.below HBr.out).below hb)
      have HH : Hid (∀ wk, Below wr.heap.size wr wk → Calls Tryz.prog 27 #[.slice la nn lc, .string (l[k]).name] wk fun e' w' => e' = .returned (.bool (mem ns (l[k]).name)) ∧ w' = wk) := fun wk hb => by
        rw [← HNN.out]
        exact lhas_any ns la lc (l[k]).name HNS.out wk ((HS0.out.below HBr.out).below hb)
      have CB : Hid (∀ (h : Bool) wk, Below wr.heap.size wr wk → Calls Tryz.prog 21 #[.slice a3 (l[k]).body.length c3, .slice la nn lc, .bool h] wk fun e' w' => e' = .returned (.bool (lcB (mem ns) h (l[k]).body)) ∧ Below wk.heap.size wk w') := fun h wk hb => by
        rw [← HNN.out]
        exact hqb a3 c3 la lc h wk hoks.body hoks.bodyLen ((HS0.out.below HBr.out).below hb) ((hkk.body.below HBr.out).below hb)
      have CE : Hid (∀ (h : Bool) wk, Below wr.heap.size wr wk → Calls Tryz.prog 21 #[.slice a4 (l[k]).els.length c4, .slice la nn lc, .bool h] wk fun e' w' => e' = .returned (.bool (lcB (mem ns) h (l[k]).els)) ∧ Below wk.heap.size wk w') := fun h wk hb => by
        rw [← HNN.out]
        exact hqe a4 c4 la lc h wk hoks.els hoks.elsLen ((HS0.out.below HBr.out).below hb) ((hkk.els.below HBr.out).below hb)
      obtain ⟨RS, hRS⟩ : ∃ b, lcB (mem ns) u (l.drop (k + 1)) = b := ⟨_, rfl⟩
      rw [hRS] at hx
      have HRS := Lib.hid hRS
      have NX : Hid (∀ (h : Bool), (u || tE (mem ns) (l[k]).a || (decide ((l[k]).op = 6) && tE (mem ns) (l[k]).b)) = h → (!(h && (decide ((l[k]).op = 1) || decide ((l[k]).op = 2) || decide ((l[k]).op = 6)) && !mem ns (l[k]).name) && lcB (mem ns) h (l[k]).body && lcB (mem ns) h (l[k]).els && RS) = R) := fun h e1 => by
        have e1' : here (mem ns) u (l[k]).op (l[k]).a (l[k]).b = h := e1
        rw [e1'] at hx
        exact hx
      have hbz := below_box wr (A.stO l[k] a1 c1 a2 c2 a3 c3 a4 c4)
      have hxz := Bx.new wr (stF l[k] a1 c1 a2 c2 a3 c3 a4 c4) 44
      have f0 := hcc.k0
      have f1 := hcc.k1
      have f2 := hcc.k2
      have f3 := hcc.k3
      have f4 := hcc.k4
      have f5 := hcc.k5
      have f6 := hcc.k6
      have f7 := hcc.k7
      have f8 := hcc.k8
      have f9 := hcc.k9
      have f10 := hcc.k10
      have f11 := hcc.k11
      have f12 := hcc.k12
      clear hat hcc0 hkk hcc hoks hqb hqe HX hx hRS
      unfold A.stO at hbz
      unfold stF at hxz
      unfold exV at TA TB
      generalize tE (mem ns) (l[k]).a = ta at *
      generalize tE (mem ns) (l[k]).b = tb at *
      generalize mem ns (l[k]).name = hm at *
      generalize (l[k]).a.args.length = n1 at *
      generalize (l[k]).b.args.length = n2 at *
      generalize (l[k]).a.op = o1 at *
      generalize (l[k]).a.n = m1 at *
      generalize (l[k]).a.s = s1 at *
      generalize (l[k]).b.op = o2 at *
      generalize (l[k]).b.n = m2 at *
      generalize (l[k]).b.s = s2 at *
      generalize (l[k]).body.length = n3 at *
      generalize (l[k]).els.length = n4 at *
      generalize (l[k]).body = bd at *
      generalize (l[k]).els = el at *
      generalize (l[k]).op = o0 at *
      generalize (l[k]).name = s0 at *
      generalize (l[k]).mx = m0 at *
      have HXz := Lib.hid hxz
      have HBz := Lib.hid hbz
      clear hbz
      by_cases h6 : o0 = 6
      · subst h6
        have y0 := hxz.cell 0
        have y1 := hxz.cell 1
        have y3 := hxz.cell 3
        have y4 := hxz.cell 4
        have y5 := hxz.cell 5
        have y6 := hxz.cell 6
        have y7 := hxz.cell 7
        have y8 := hxz.cell 8
        have y9 := hxz.cell 9
        have y10 := hxz.cell 10
        have y11 := hxz.cell 11
        have y12 := hxz.cell 12
        simp only [List.getElem?_toArray, List.getElem?_cons_zero, List.getElem?_cons_succ] at y0 y1 y3 y4 y5 y6 y7 y8 y9 y10 y11 y12
        clear hxz
        cases u with
        | true =>
          have hG := NX.out true (by simp)
          have CBh := Lib.hid (CB.out true)
          have CEh := Lib.hid (CE.out true)
          generalize lcB (mem ns) true bd = rb at hG CBh
          generalize lcB (mem ns) true el = re at hG CEh
          have HG := Lib.hid hG
          clear hG NX CB CE TA TB
          cases hm with
          | false =>
            have HV : Hid (false = R) := by have hh := HG.out; show _ = _; simpa using hh
            go_wp2_with fail
            refine (HH.out _ HBz.out).mono ?_; rintro e' w1 ⟨rfl, rfl⟩
            go_wp2_with fail
            go_ret
            exact ⟨ret_bool HV.out, below_2 HBr.out HBz.out⟩
          | true =>
            go_wp2_with fail
            refine (HH.out _ HBz.out).mono ?_; rintro e' w1 ⟨rfl, rfl⟩
            cases rb with
            | false =>
              have HV : Hid (false = R) := by have hh := HG.out; show _ = _; simpa using hh
              go_wp2_with fail
              refine (CBh.out _ HBz.out).mono ?_; rintro e' w2 ⟨rfl, hb2⟩
              have HB2 := Lib.hid (below_2 HBz.out hb2)
              clear hb2 y0 y1 y3 y4 y5 y6 y7 y8 y9 y10 y11 y12
              go_wp2_with fail
              go_ret
              exact ⟨ret_bool HV.out, below_2 HBr.out HB2.out⟩
            | true =>
              go_wp2_with fail
              refine (CBh.out _ HBz.out).mono ?_; rintro e' w3 ⟨rfl, hb3⟩
              have HB3 := Lib.hid (below_2 HBz.out hb3)
              have HX3 := Lib.hid (HXz.out.below hb3)
              clear hb3 y0 y1 y3 y4 y5 y6 y7 y8 y9 y10 y11 y12
              have q3_0 := HX3.out.cell 0
              have q3_1 := HX3.out.cell 1
              have q3_3 := HX3.out.cell 3
              have q3_4 := HX3.out.cell 4
              have q3_5 := HX3.out.cell 5
              have q3_6 := HX3.out.cell 6
              have q3_7 := HX3.out.cell 7
              have q3_8 := HX3.out.cell 8
              have q3_9 := HX3.out.cell 9
              have q3_10 := HX3.out.cell 10
              have q3_11 := HX3.out.cell 11
              have q3_12 := HX3.out.cell 12
              simp only [List.getElem?_toArray, List.getElem?_cons_zero, List.getElem?_cons_succ] at q3_0 q3_1 q3_3 q3_4 q3_5 q3_6 q3_7 q3_8 q3_9 q3_10 q3_11 q3_12
              cases re with
              | false =>
                have HV : Hid (false = R) := by have hh := HG.out; show _ = _; simpa using hh
                go_wp2_with fail
                refine (CEh.out _ HB3.out).mono ?_; rintro e' w4 ⟨rfl, hb4⟩
                have HB4 := Lib.hid (below_2 HB3.out hb4)
                clear hb4 q3_0 q3_1 q3_3 q3_4 q3_5 q3_6 q3_7 q3_8 q3_9 q3_10 q3_11 q3_12
                go_wp2_with fail
                go_ret
                exact ⟨ret_bool HV.out, below_2 HBr.out HB4.out⟩
              | true =>
                have HX3 : Hid (lcB (mem ns) true (l.drop (k + 1)) = R) := by have hh := HG.out; show _ = _; rw [HRS.out]; simpa using hh
                go_wp2_with fail
                refine (CEh.out _ HB3.out).mono ?_; rintro e' w5 ⟨rfl, hb5⟩
                have HB5 := Lib.hid (below_2 HBr.out (below_2 HB3.out hb5))
                clear hb5 q3_0 q3_1 q3_3 q3_4 q3_5 q3_6 q3_7 q3_8 q3_9 q3_10 q3_11 q3_12
                go_wp2_with fail
                go_roundw
                case rel => exact ⟨k + 1, by omega, by go_num, HX3.out, HB5.out⟩
                case measure => simp [intOf]; omega
        | false =>
          go_wp2_with fail
          refine (TA.out _ HBz.out).mono ?_; rintro e' w6 ⟨rfl, hb6⟩
          have HB6 := Lib.hid (below_2 HBz.out hb6)
          have HX6 := Lib.hid (HXz.out.below hb6)
          clear hb6 y0 y1 y3 y4 y5 y6 y7 y8 y9 y10 y11 y12
          have q6_0 := HX6.out.cell 0
          have q6_1 := HX6.out.cell 1
          have q6_3 := HX6.out.cell 3
          have q6_4 := HX6.out.cell 4
          have q6_5 := HX6.out.cell 5
          have q6_6 := HX6.out.cell 6
          have q6_7 := HX6.out.cell 7
          have q6_8 := HX6.out.cell 8
          have q6_9 := HX6.out.cell 9
          have q6_10 := HX6.out.cell 10
          have q6_11 := HX6.out.cell 11
          have q6_12 := HX6.out.cell 12
          simp only [List.getElem?_toArray, List.getElem?_cons_zero, List.getElem?_cons_succ] at q6_0 q6_1 q6_3 q6_4 q6_5 q6_6 q6_7 q6_8 q6_9 q6_10 q6_11 q6_12
          cases ta with
          | true =>
            have hG := NX.out true (by simp)
            have CBh := Lib.hid (CB.out true)
            have CEh := Lib.hid (CE.out true)
            generalize lcB (mem ns) true bd = rb at hG CBh
            generalize lcB (mem ns) true el = re at hG CEh
            have HG := Lib.hid hG
            clear hG NX CB CE TA TB
            cases hm with
            | false =>
              have HV : Hid (false = R) := by have hh := HG.out; show _ = _; simpa using hh
              go_wp2_with fail
              refine (HH.out _ HB6.out).mono ?_; rintro e' w7 ⟨rfl, rfl⟩
              go_wp2_with fail
              go_ret
              exact ⟨ret_bool HV.out, below_2 HBr.out HB6.out⟩
            | true =>
              go_wp2_with fail
              refine (HH.out _ HB6.out).mono ?_; rintro e' w7 ⟨rfl, rfl⟩
              cases rb with
              | false =>
                have HV : Hid (false = R) := by have hh := HG.out; show _ = _; simpa using hh
                go_wp2_with fail
                refine (CBh.out _ HB6.out).mono ?_; rintro e' w8 ⟨rfl, hb8⟩
                have HB8 := Lib.hid (below_2 HB6.out hb8)
                clear hb8 q6_0 q6_1 q6_3 q6_4 q6_5 q6_6 q6_7 q6_8 q6_9 q6_10 q6_11 q6_12
                go_wp2_with fail
                go_ret
                exact ⟨ret_bool HV.out, below_2 HBr.out HB8.out⟩
              | true =>
                go_wp2_with fail
                refine (CBh.out _ HB6.out).mono ?_; rintro e' w9 ⟨rfl, hb9⟩
                have HB9 := Lib.hid (below_2 HB6.out hb9)
                have HX9 := Lib.hid (HX6.out.below hb9)
                clear hb9 q6_0 q6_1 q6_3 q6_4 q6_5 q6_6 q6_7 q6_8 q6_9 q6_10 q6_11 q6_12
                have q9_0 := HX9.out.cell 0
                have q9_1 := HX9.out.cell 1
                have q9_3 := HX9.out.cell 3
                have q9_4 := HX9.out.cell 4
                have q9_5 := HX9.out.cell 5
                have q9_6 := HX9.out.cell 6
                have q9_7 := HX9.out.cell 7
                have q9_8 := HX9.out.cell 8
                have q9_9 := HX9.out.cell 9
                have q9_10 := HX9.out.cell 10
                have q9_11 := HX9.out.cell 11
                have q9_12 := HX9.out.cell 12
                simp only [List.getElem?_toArray, List.getElem?_cons_zero, List.getElem?_cons_succ] at q9_0 q9_1 q9_3 q9_4 q9_5 q9_6 q9_7 q9_8 q9_9 q9_10 q9_11 q9_12
                cases re with
                | false =>
                  have HV : Hid (false = R) := by have hh := HG.out; show _ = _; simpa using hh
                  go_wp2_with fail
                  refine (CEh.out _ HB9.out).mono ?_; rintro e' w10 ⟨rfl, hb10⟩
                  have HB10 := Lib.hid (below_2 HB9.out hb10)
                  clear hb10 q9_0 q9_1 q9_3 q9_4 q9_5 q9_6 q9_7 q9_8 q9_9 q9_10 q9_11 q9_12
                  go_wp2_with fail
                  go_ret
                  exact ⟨ret_bool HV.out, below_2 HBr.out HB10.out⟩
                | true =>
                  have HX3 : Hid (lcB (mem ns) false (l.drop (k + 1)) = R) := by have hh := HG.out; show _ = _; rw [HRS.out]; simpa using hh
                  go_wp2_with fail
                  refine (CEh.out _ HB9.out).mono ?_; rintro e' w11 ⟨rfl, hb11⟩
                  have HB11 := Lib.hid (below_2 HBr.out (below_2 HB9.out hb11))
                  clear hb11 q9_0 q9_1 q9_3 q9_4 q9_5 q9_6 q9_7 q9_8 q9_9 q9_10 q9_11 q9_12
                  go_wp2_with fail
                  go_roundw
                  case rel => exact ⟨k + 1, by omega, by go_num, HX3.out, HB11.out⟩
                  case measure => simp [intOf]; omega
          | false =>
            go_wp2_with fail
            refine (TB.out _ HB6.out).mono ?_; rintro e' w12 ⟨rfl, hb12⟩
            have HB12 := Lib.hid (below_2 HB6.out hb12)
            have HX12 := Lib.hid (HX6.out.below hb12)
            clear hb12 q6_0 q6_1 q6_3 q6_4 q6_5 q6_6 q6_7 q6_8 q6_9 q6_10 q6_11 q6_12
            have q12_0 := HX12.out.cell 0
            have q12_1 := HX12.out.cell 1
            have q12_3 := HX12.out.cell 3
            have q12_4 := HX12.out.cell 4
            have q12_5 := HX12.out.cell 5
            have q12_6 := HX12.out.cell 6
            have q12_7 := HX12.out.cell 7
            have q12_8 := HX12.out.cell 8
            have q12_9 := HX12.out.cell 9
            have q12_10 := HX12.out.cell 10
            have q12_11 := HX12.out.cell 11
            have q12_12 := HX12.out.cell 12
            simp only [List.getElem?_toArray, List.getElem?_cons_zero, List.getElem?_cons_succ] at q12_0 q12_1 q12_3 q12_4 q12_5 q12_6 q12_7 q12_8 q12_9 q12_10 q12_11 q12_12
            cases tb with
            | true =>
              have hG := NX.out true (by simp)
              have CBh := Lib.hid (CB.out true)
              have CEh := Lib.hid (CE.out true)
              generalize lcB (mem ns) true bd = rb at hG CBh
              generalize lcB (mem ns) true el = re at hG CEh
              have HG := Lib.hid hG
              clear hG NX CB CE TA TB
              cases hm with
              | false =>
                have HV : Hid (false = R) := by have hh := HG.out; show _ = _; simpa using hh
                go_wp2_with fail
                refine (HH.out _ HB12.out).mono ?_; rintro e' w13 ⟨rfl, rfl⟩
                go_wp2_with fail
                go_ret
                exact ⟨ret_bool HV.out, below_2 HBr.out HB12.out⟩
              | true =>
                go_wp2_with fail
                refine (HH.out _ HB12.out).mono ?_; rintro e' w13 ⟨rfl, rfl⟩
                cases rb with
                | false =>
                  have HV : Hid (false = R) := by have hh := HG.out; show _ = _; simpa using hh
                  go_wp2_with fail
                  refine (CBh.out _ HB12.out).mono ?_; rintro e' w14 ⟨rfl, hb14⟩
                  have HB14 := Lib.hid (below_2 HB12.out hb14)
                  clear hb14 q12_0 q12_1 q12_3 q12_4 q12_5 q12_6 q12_7 q12_8 q12_9 q12_10 q12_11 q12_12
                  go_wp2_with fail
                  go_ret
                  exact ⟨ret_bool HV.out, below_2 HBr.out HB14.out⟩
                | true =>
                  go_wp2_with fail
                  refine (CBh.out _ HB12.out).mono ?_; rintro e' w15 ⟨rfl, hb15⟩
                  have HB15 := Lib.hid (below_2 HB12.out hb15)
                  have HX15 := Lib.hid (HX12.out.below hb15)
                  clear hb15 q12_0 q12_1 q12_3 q12_4 q12_5 q12_6 q12_7 q12_8 q12_9 q12_10 q12_11 q12_12
                  have q15_0 := HX15.out.cell 0
                  have q15_1 := HX15.out.cell 1
                  have q15_3 := HX15.out.cell 3
                  have q15_4 := HX15.out.cell 4
                  have q15_5 := HX15.out.cell 5
                  have q15_6 := HX15.out.cell 6
                  have q15_7 := HX15.out.cell 7
                  have q15_8 := HX15.out.cell 8
                  have q15_9 := HX15.out.cell 9
                  have q15_10 := HX15.out.cell 10
                  have q15_11 := HX15.out.cell 11
                  have q15_12 := HX15.out.cell 12
                  simp only [List.getElem?_toArray, List.getElem?_cons_zero, List.getElem?_cons_succ] at q15_0 q15_1 q15_3 q15_4 q15_5 q15_6 q15_7 q15_8 q15_9 q15_10 q15_11 q15_12
                  cases re with
                  | false =>
                    have HV : Hid (false = R) := by have hh := HG.out; show _ = _; simpa using hh
                    go_wp2_with fail
                    refine (CEh.out _ HB15.out).mono ?_; rintro e' w16 ⟨rfl, hb16⟩
                    have HB16 := Lib.hid (below_2 HB15.out hb16)
                    clear hb16 q15_0 q15_1 q15_3 q15_4 q15_5 q15_6 q15_7 q15_8 q15_9 q15_10 q15_11 q15_12
                    go_wp2_with fail
                    go_ret
                    exact ⟨ret_bool HV.out, below_2 HBr.out HB16.out⟩
                  | true =>
                    have HX3 : Hid (lcB (mem ns) false (l.drop (k + 1)) = R) := by have hh := HG.out; show _ = _; rw [HRS.out]; simpa using hh
                    go_wp2_with fail
                    refine (CEh.out _ HB15.out).mono ?_; rintro e' w17 ⟨rfl, hb17⟩
                    have HB17 := Lib.hid (below_2 HBr.out (below_2 HB15.out hb17))
                    clear hb17 q15_0 q15_1 q15_3 q15_4 q15_5 q15_6 q15_7 q15_8 q15_9 q15_10 q15_11 q15_12
                    go_wp2_with fail
                    go_roundw
                    case rel => exact ⟨k + 1, by omega, by go_num, HX3.out, HB17.out⟩
                    case measure => simp [intOf]; omega
            | false =>
              have hG := NX.out false (by simp)
              have CBh := Lib.hid (CB.out false)
              have CEh := Lib.hid (CE.out false)
              generalize lcB (mem ns) false bd = rb at hG CBh
              generalize lcB (mem ns) false el = re at hG CEh
              have HG := Lib.hid hG
              clear hG NX CB CE TA TB
              cases rb with
              | false =>
                have HV : Hid (false = R) := by have hh := HG.out; show _ = _; simpa using hh
                go_wp2_with fail
                refine (CBh.out _ HB12.out).mono ?_; rintro e' w18 ⟨rfl, hb18⟩
                have HB18 := Lib.hid (below_2 HB12.out hb18)
                clear hb18 q12_0 q12_1 q12_3 q12_4 q12_5 q12_6 q12_7 q12_8 q12_9 q12_10 q12_11 q12_12
                go_wp2_with fail
                go_ret
                exact ⟨ret_bool HV.out, below_2 HBr.out HB18.out⟩
              | true =>
                go_wp2_with fail
                refine (CBh.out _ HB12.out).mono ?_; rintro e' w19 ⟨rfl, hb19⟩
                have HB19 := Lib.hid (below_2 HB12.out hb19)
                have HX19 := Lib.hid (HX12.out.below hb19)
                clear hb19 q12_0 q12_1 q12_3 q12_4 q12_5 q12_6 q12_7 q12_8 q12_9 q12_10 q12_11 q12_12
                have q19_0 := HX19.out.cell 0
                have q19_1 := HX19.out.cell 1
                have q19_3 := HX19.out.cell 3
                have q19_4 := HX19.out.cell 4
                have q19_5 := HX19.out.cell 5
                have q19_6 := HX19.out.cell 6
                have q19_7 := HX19.out.cell 7
                have q19_8 := HX19.out.cell 8
                have q19_9 := HX19.out.cell 9
                have q19_10 := HX19.out.cell 10
                have q19_11 := HX19.out.cell 11
                have q19_12 := HX19.out.cell 12
                simp only [List.getElem?_toArray, List.getElem?_cons_zero, List.getElem?_cons_succ] at q19_0 q19_1 q19_3 q19_4 q19_5 q19_6 q19_7 q19_8 q19_9 q19_10 q19_11 q19_12
                cases re with
                | false =>
                  have HV : Hid (false = R) := by have hh := HG.out; show _ = _; simpa using hh
                  go_wp2_with fail
                  refine (CEh.out _ HB19.out).mono ?_; rintro e' w20 ⟨rfl, hb20⟩
                  have HB20 := Lib.hid (below_2 HB19.out hb20)
                  clear hb20 q19_0 q19_1 q19_3 q19_4 q19_5 q19_6 q19_7 q19_8 q19_9 q19_10 q19_11 q19_12
                  go_wp2_with fail
                  go_ret
                  exact ⟨ret_bool HV.out, below_2 HBr.out HB20.out⟩
                | true =>
                  have HX3 : Hid (lcB (mem ns) false (l.drop (k + 1)) = R) := by have hh := HG.out; show _ = _; rw [HRS.out]; simpa using hh
                  go_wp2_with fail
                  refine (CEh.out _ HB19.out).mono ?_; rintro e' w21 ⟨rfl, hb21⟩
                  have HB21 := Lib.hid (below_2 HBr.out (below_2 HB19.out hb21))
                  clear hb21 q19_0 q19_1 q19_3 q19_4 q19_5 q19_6 q19_7 q19_8 q19_9 q19_10 q19_11 q19_12
                  go_wp2_with fail
                  go_roundw
                  case rel => exact ⟨k + 1, by omega, by go_num, HX3.out, HB21.out⟩
                  case measure => simp [intOf]; omega
      · have b6 : (o0 == 6) = false := beq_eq_false_iff_ne.2 h6
        by_cases h1 : o0 = 1
        · subst h1
          have y0 := hxz.cell 0
          have y1 := hxz.cell 1
          have y3 := hxz.cell 3
          have y4 := hxz.cell 4
          have y5 := hxz.cell 5
          have y6 := hxz.cell 6
          have y7 := hxz.cell 7
          have y8 := hxz.cell 8
          have y9 := hxz.cell 9
          have y10 := hxz.cell 10
          have y11 := hxz.cell 11
          have y12 := hxz.cell 12
          simp only [List.getElem?_toArray, List.getElem?_cons_zero, List.getElem?_cons_succ] at y0 y1 y3 y4 y5 y6 y7 y8 y9 y10 y11 y12
          clear hxz
          cases u with
          | true =>
            have hG := NX.out true (by simp)
            have CBh := Lib.hid (CB.out true)
            have CEh := Lib.hid (CE.out true)
            generalize lcB (mem ns) true bd = rb at hG CBh
            generalize lcB (mem ns) true el = re at hG CEh
            have HG := Lib.hid hG
            clear hG NX CB CE TA TB
            cases hm with
            | false =>
              have HV : Hid (false = R) := by have hh := HG.out; show _ = _; simpa using hh
              go_wp2_with fail
              refine (HH.out _ HBz.out).mono ?_; rintro e' w22 ⟨rfl, rfl⟩
              go_wp2_with fail
              go_ret
              exact ⟨ret_bool HV.out, below_2 HBr.out HBz.out⟩
            | true =>
              go_wp2_with fail
              refine (HH.out _ HBz.out).mono ?_; rintro e' w22 ⟨rfl, rfl⟩
              cases rb with
              | false =>
                have HV : Hid (false = R) := by have hh := HG.out; show _ = _; simpa using hh
                go_wp2_with fail
                refine (CBh.out _ HBz.out).mono ?_; rintro e' w23 ⟨rfl, hb23⟩
                have HB23 := Lib.hid (below_2 HBz.out hb23)
                clear hb23 y0 y1 y3 y4 y5 y6 y7 y8 y9 y10 y11 y12
                go_wp2_with fail
                go_ret
                exact ⟨ret_bool HV.out, below_2 HBr.out HB23.out⟩
              | true =>
                go_wp2_with fail
                refine (CBh.out _ HBz.out).mono ?_; rintro e' w24 ⟨rfl, hb24⟩
                have HB24 := Lib.hid (below_2 HBz.out hb24)
                have HX24 := Lib.hid (HXz.out.below hb24)
                clear hb24 y0 y1 y3 y4 y5 y6 y7 y8 y9 y10 y11 y12
                have q24_0 := HX24.out.cell 0
                have q24_1 := HX24.out.cell 1
                have q24_3 := HX24.out.cell 3
                have q24_4 := HX24.out.cell 4
                have q24_5 := HX24.out.cell 5
                have q24_6 := HX24.out.cell 6
                have q24_7 := HX24.out.cell 7
                have q24_8 := HX24.out.cell 8
                have q24_9 := HX24.out.cell 9
                have q24_10 := HX24.out.cell 10
                have q24_11 := HX24.out.cell 11
                have q24_12 := HX24.out.cell 12
                simp only [List.getElem?_toArray, List.getElem?_cons_zero, List.getElem?_cons_succ] at q24_0 q24_1 q24_3 q24_4 q24_5 q24_6 q24_7 q24_8 q24_9 q24_10 q24_11 q24_12
                cases re with
                | false =>
                  have HV : Hid (false = R) := by have hh := HG.out; show _ = _; simpa using hh
                  go_wp2_with fail
                  refine (CEh.out _ HB24.out).mono ?_; rintro e' w25 ⟨rfl, hb25⟩
                  have HB25 := Lib.hid (below_2 HB24.out hb25)
                  clear hb25 q24_0 q24_1 q24_3 q24_4 q24_5 q24_6 q24_7 q24_8 q24_9 q24_10 q24_11 q24_12
                  go_wp2_with fail
                  go_ret
                  exact ⟨ret_bool HV.out, below_2 HBr.out HB25.out⟩
                | true =>
                  have HX3 : Hid (lcB (mem ns) true (l.drop (k + 1)) = R) := by have hh := HG.out; show _ = _; rw [HRS.out]; simpa using hh
                  go_wp2_with fail
                  refine (CEh.out _ HB24.out).mono ?_; rintro e' w26 ⟨rfl, hb26⟩
                  have HB26 := Lib.hid (below_2 HBr.out (below_2 HB24.out hb26))
                  clear hb26 q24_0 q24_1 q24_3 q24_4 q24_5 q24_6 q24_7 q24_8 q24_9 q24_10 q24_11 q24_12
                  go_wp2_with fail
                  go_roundw
                  case rel => exact ⟨k + 1, by omega, by go_num, HX3.out, HB26.out⟩
                  case measure => simp [intOf]; omega
          | false =>
            go_wp2_with fail
            refine (TA.out _ HBz.out).mono ?_; rintro e' w27 ⟨rfl, hb27⟩
            have HB27 := Lib.hid (below_2 HBz.out hb27)
            have HX27 := Lib.hid (HXz.out.below hb27)
            clear hb27 y0 y1 y3 y4 y5 y6 y7 y8 y9 y10 y11 y12
            have q27_0 := HX27.out.cell 0
            have q27_1 := HX27.out.cell 1
            have q27_3 := HX27.out.cell 3
            have q27_4 := HX27.out.cell 4
            have q27_5 := HX27.out.cell 5
            have q27_6 := HX27.out.cell 6
            have q27_7 := HX27.out.cell 7
            have q27_8 := HX27.out.cell 8
            have q27_9 := HX27.out.cell 9
            have q27_10 := HX27.out.cell 10
            have q27_11 := HX27.out.cell 11
            have q27_12 := HX27.out.cell 12
            simp only [List.getElem?_toArray, List.getElem?_cons_zero, List.getElem?_cons_succ] at q27_0 q27_1 q27_3 q27_4 q27_5 q27_6 q27_7 q27_8 q27_9 q27_10 q27_11 q27_12
            cases ta with
            | true =>
              have hG := NX.out true (by simp)
              have CBh := Lib.hid (CB.out true)
              have CEh := Lib.hid (CE.out true)
              generalize lcB (mem ns) true bd = rb at hG CBh
              generalize lcB (mem ns) true el = re at hG CEh
              have HG := Lib.hid hG
              clear hG NX CB CE TA TB
              cases hm with
              | false =>
                have HV : Hid (false = R) := by have hh := HG.out; show _ = _; simpa using hh
                go_wp2_with fail
                refine (HH.out _ HB27.out).mono ?_; rintro e' w28 ⟨rfl, rfl⟩
                go_wp2_with fail
                go_ret
                exact ⟨ret_bool HV.out, below_2 HBr.out HB27.out⟩
              | true =>
                go_wp2_with fail
                refine (HH.out _ HB27.out).mono ?_; rintro e' w28 ⟨rfl, rfl⟩
                cases rb with
                | false =>
                  have HV : Hid (false = R) := by have hh := HG.out; show _ = _; simpa using hh
                  go_wp2_with fail
                  refine (CBh.out _ HB27.out).mono ?_; rintro e' w29 ⟨rfl, hb29⟩
                  have HB29 := Lib.hid (below_2 HB27.out hb29)
                  clear hb29 q27_0 q27_1 q27_3 q27_4 q27_5 q27_6 q27_7 q27_8 q27_9 q27_10 q27_11 q27_12
                  go_wp2_with fail
                  go_ret
                  exact ⟨ret_bool HV.out, below_2 HBr.out HB29.out⟩
                | true =>
                  go_wp2_with fail
                  refine (CBh.out _ HB27.out).mono ?_; rintro e' w30 ⟨rfl, hb30⟩
                  have HB30 := Lib.hid (below_2 HB27.out hb30)
                  have HX30 := Lib.hid (HX27.out.below hb30)
                  clear hb30 q27_0 q27_1 q27_3 q27_4 q27_5 q27_6 q27_7 q27_8 q27_9 q27_10 q27_11 q27_12
                  have q30_0 := HX30.out.cell 0
                  have q30_1 := HX30.out.cell 1
                  have q30_3 := HX30.out.cell 3
                  have q30_4 := HX30.out.cell 4
                  have q30_5 := HX30.out.cell 5
                  have q30_6 := HX30.out.cell 6
                  have q30_7 := HX30.out.cell 7
                  have q30_8 := HX30.out.cell 8
                  have q30_9 := HX30.out.cell 9
                  have q30_10 := HX30.out.cell 10
                  have q30_11 := HX30.out.cell 11
                  have q30_12 := HX30.out.cell 12
                  simp only [List.getElem?_toArray, List.getElem?_cons_zero, List.getElem?_cons_succ] at q30_0 q30_1 q30_3 q30_4 q30_5 q30_6 q30_7 q30_8 q30_9 q30_10 q30_11 q30_12
                  cases re with
                  | false =>
                    have HV : Hid (false = R) := by have hh := HG.out; show _ = _; simpa using hh
                    go_wp2_with fail
                    refine (CEh.out _ HB30.out).mono ?_; rintro e' w31 ⟨rfl, hb31⟩
                    have HB31 := Lib.hid (below_2 HB30.out hb31)
                    clear hb31 q30_0 q30_1 q30_3 q30_4 q30_5 q30_6 q30_7 q30_8 q30_9 q30_10 q30_11 q30_12
                    go_wp2_with fail
                    go_ret
                    exact ⟨ret_bool HV.out, below_2 HBr.out HB31.out⟩
                  | true =>
                    have HX3 : Hid (lcB (mem ns) false (l.drop (k + 1)) = R) := by have hh := HG.out; show _ = _; rw [HRS.out]; simpa using hh
                    go_wp2_with fail
                    refine (CEh.out _ HB30.out).mono ?_; rintro e' w32 ⟨rfl, hb32⟩
                    have HB32 := Lib.hid (below_2 HBr.out (below_2 HB30.out hb32))
                    clear hb32 q30_0 q30_1 q30_3 q30_4 q30_5 q30_6 q30_7 q30_8 q30_9 q30_10 q30_11 q30_12
                    go_wp2_with fail
                    go_roundw
                    case rel => exact ⟨k + 1, by omega, by go_num, HX3.out, HB32.out⟩
                    case measure => simp [intOf]; omega
            | false =>
              have hG := NX.out false (by simp)
              have CBh := Lib.hid (CB.out false)
              have CEh := Lib.hid (CE.out false)
              generalize lcB (mem ns) false bd = rb at hG CBh
              generalize lcB (mem ns) false el = re at hG CEh
              have HG := Lib.hid hG
              clear hG NX CB CE TA TB
              cases rb with
              | false =>
                have HV : Hid (false = R) := by have hh := HG.out; show _ = _; simpa using hh
                go_wp2_with fail
                refine (CBh.out _ HB27.out).mono ?_; rintro e' w33 ⟨rfl, hb33⟩
                have HB33 := Lib.hid (below_2 HB27.out hb33)
                clear hb33 q27_0 q27_1 q27_3 q27_4 q27_5 q27_6 q27_7 q27_8 q27_9 q27_10 q27_11 q27_12
                go_wp2_with fail
                go_ret
                exact ⟨ret_bool HV.out, below_2 HBr.out HB33.out⟩
              | true =>
                go_wp2_with fail
                refine (CBh.out _ HB27.out).mono ?_; rintro e' w34 ⟨rfl, hb34⟩
                have HB34 := Lib.hid (below_2 HB27.out hb34)
                have HX34 := Lib.hid (HX27.out.below hb34)
                clear hb34 q27_0 q27_1 q27_3 q27_4 q27_5 q27_6 q27_7 q27_8 q27_9 q27_10 q27_11 q27_12
                have q34_0 := HX34.out.cell 0
                have q34_1 := HX34.out.cell 1
                have q34_3 := HX34.out.cell 3
                have q34_4 := HX34.out.cell 4
                have q34_5 := HX34.out.cell 5
                have q34_6 := HX34.out.cell 6
                have q34_7 := HX34.out.cell 7
                have q34_8 := HX34.out.cell 8
                have q34_9 := HX34.out.cell 9
                have q34_10 := HX34.out.cell 10
                have q34_11 := HX34.out.cell 11
                have q34_12 := HX34.out.cell 12
                simp only [List.getElem?_toArray, List.getElem?_cons_zero, List.getElem?_cons_succ] at q34_0 q34_1 q34_3 q34_4 q34_5 q34_6 q34_7 q34_8 q34_9 q34_10 q34_11 q34_12
                cases re with
                | false =>
                  have HV : Hid (false = R) := by have hh := HG.out; show _ = _; simpa using hh
                  go_wp2_with fail
                  refine (CEh.out _ HB34.out).mono ?_; rintro e' w35 ⟨rfl, hb35⟩
                  have HB35 := Lib.hid (below_2 HB34.out hb35)
                  clear hb35 q34_0 q34_1 q34_3 q34_4 q34_5 q34_6 q34_7 q34_8 q34_9 q34_10 q34_11 q34_12
                  go_wp2_with fail
                  go_ret
                  exact ⟨ret_bool HV.out, below_2 HBr.out HB35.out⟩
                | true =>
                  have HX3 : Hid (lcB (mem ns) false (l.drop (k + 1)) = R) := by have hh := HG.out; show _ = _; rw [HRS.out]; simpa using hh
                  go_wp2_with fail
                  refine (CEh.out _ HB34.out).mono ?_; rintro e' w36 ⟨rfl, hb36⟩
                  have HB36 := Lib.hid (below_2 HBr.out (below_2 HB34.out hb36))
                  clear hb36 q34_0 q34_1 q34_3 q34_4 q34_5 q34_6 q34_7 q34_8 q34_9 q34_10 q34_11 q34_12
                  go_wp2_with fail
                  go_roundw
                  case rel => exact ⟨k + 1, by omega, by go_num, HX3.out, HB36.out⟩
                  case measure => simp [intOf]; omega
        · have b1 : (o0 == 1) = false := beq_eq_false_iff_ne.2 h1
          by_cases h2 : o0 = 2
          · subst h2
            have y0 := hxz.cell 0
            have y1 := hxz.cell 1
            have y3 := hxz.cell 3
            have y4 := hxz.cell 4
            have y5 := hxz.cell 5
            have y6 := hxz.cell 6
            have y7 := hxz.cell 7
            have y8 := hxz.cell 8
            have y9 := hxz.cell 9
            have y10 := hxz.cell 10
            have y11 := hxz.cell 11
            have y12 := hxz.cell 12
            simp only [List.getElem?_toArray, List.getElem?_cons_zero, List.getElem?_cons_succ] at y0 y1 y3 y4 y5 y6 y7 y8 y9 y10 y11 y12
            clear hxz
            cases u with
            | true =>
              have hG := NX.out true (by simp)
              have CBh := Lib.hid (CB.out true)
              have CEh := Lib.hid (CE.out true)
              generalize lcB (mem ns) true bd = rb at hG CBh
              generalize lcB (mem ns) true el = re at hG CEh
              have HG := Lib.hid hG
              clear hG NX CB CE TA TB
              cases hm with
              | false =>
                have HV : Hid (false = R) := by have hh := HG.out; show _ = _; simpa using hh
                go_wp2_with fail
                refine (HH.out _ HBz.out).mono ?_; rintro e' w37 ⟨rfl, rfl⟩
                go_wp2_with fail
                go_ret
                exact ⟨ret_bool HV.out, below_2 HBr.out HBz.out⟩
              | true =>
                go_wp2_with fail
                refine (HH.out _ HBz.out).mono ?_; rintro e' w37 ⟨rfl, rfl⟩
                cases rb with
                | false =>
                  have HV : Hid (false = R) := by have hh := HG.out; show _ = _; simpa using hh
                  go_wp2_with fail
                  refine (CBh.out _ HBz.out).mono ?_; rintro e' w38 ⟨rfl, hb38⟩
                  have HB38 := Lib.hid (below_2 HBz.out hb38)
                  clear hb38 y0 y1 y3 y4 y5 y6 y7 y8 y9 y10 y11 y12
                  go_wp2_with fail
                  go_ret
                  exact ⟨ret_bool HV.out, below_2 HBr.out HB38.out⟩
                | true =>
                  go_wp2_with fail
                  refine (CBh.out _ HBz.out).mono ?_; rintro e' w39 ⟨rfl, hb39⟩
                  have HB39 := Lib.hid (below_2 HBz.out hb39)
                  have HX39 := Lib.hid (HXz.out.below hb39)
                  clear hb39 y0 y1 y3 y4 y5 y6 y7 y8 y9 y10 y11 y12
                  have q39_0 := HX39.out.cell 0
                  have q39_1 := HX39.out.cell 1
                  have q39_3 := HX39.out.cell 3
                  have q39_4 := HX39.out.cell 4
                  have q39_5 := HX39.out.cell 5
                  have q39_6 := HX39.out.cell 6
                  have q39_7 := HX39.out.cell 7
                  have q39_8 := HX39.out.cell 8
                  have q39_9 := HX39.out.cell 9
                  have q39_10 := HX39.out.cell 10
                  have q39_11 := HX39.out.cell 11
                  have q39_12 := HX39.out.cell 12
                  simp only [List.getElem?_toArray, List.getElem?_cons_zero, List.getElem?_cons_succ] at q39_0 q39_1 q39_3 q39_4 q39_5 q39_6 q39_7 q39_8 q39_9 q39_10 q39_11 q39_12
                  cases re with
                  | false =>
                    have HV : Hid (false = R) := by have hh := HG.out; show _ = _; simpa using hh
                    go_wp2_with fail
                    refine (CEh.out _ HB39.out).mono ?_; rintro e' w40 ⟨rfl, hb40⟩
                    have HB40 := Lib.hid (below_2 HB39.out hb40)
                    clear hb40 q39_0 q39_1 q39_3 q39_4 q39_5 q39_6 q39_7 q39_8 q39_9 q39_10 q39_11 q39_12
                    go_wp2_with fail
                    go_ret
                    exact ⟨ret_bool HV.out, below_2 HBr.out HB40.out⟩
                  | true =>
                    have HX3 : Hid (lcB (mem ns) true (l.drop (k + 1)) = R) := by have hh := HG.out; show _ = _; rw [HRS.out]; simpa using hh
                    go_wp2_with fail
                    refine (CEh.out _ HB39.out).mono ?_; rintro e' w41 ⟨rfl, hb41⟩
                    have HB41 := Lib.hid (below_2 HBr.out (below_2 HB39.out hb41))
                    clear hb41 q39_0 q39_1 q39_3 q39_4 q39_5 q39_6 q39_7 q39_8 q39_9 q39_10 q39_11 q39_12
                    go_wp2_with fail
                    go_roundw
                    case rel => exact ⟨k + 1, by omega, by go_num, HX3.out, HB41.out⟩
                    case measure => simp [intOf]; omega
            | false =>
              go_wp2_with fail
              refine (TA.out _ HBz.out).mono ?_; rintro e' w42 ⟨rfl, hb42⟩
              have HB42 := Lib.hid (below_2 HBz.out hb42)
              have HX42 := Lib.hid (HXz.out.below hb42)
              clear hb42 y0 y1 y3 y4 y5 y6 y7 y8 y9 y10 y11 y12
              have q42_0 := HX42.out.cell 0
              have q42_1 := HX42.out.cell 1
              have q42_3 := HX42.out.cell 3
              have q42_4 := HX42.out.cell 4
              have q42_5 := HX42.out.cell 5
              have q42_6 := HX42.out.cell 6
              have q42_7 := HX42.out.cell 7
              have q42_8 := HX42.out.cell 8
              have q42_9 := HX42.out.cell 9
              have q42_10 := HX42.out.cell 10
              have q42_11 := HX42.out.cell 11
              have q42_12 := HX42.out.cell 12
              simp only [List.getElem?_toArray, List.getElem?_cons_zero, List.getElem?_cons_succ] at q42_0 q42_1 q42_3 q42_4 q42_5 q42_6 q42_7 q42_8 q42_9 q42_10 q42_11 q42_12
              cases ta with
              | true =>
                have hG := NX.out true (by simp)
                have CBh := Lib.hid (CB.out true)
                have CEh := Lib.hid (CE.out true)
                generalize lcB (mem ns) true bd = rb at hG CBh
                generalize lcB (mem ns) true el = re at hG CEh
                have HG := Lib.hid hG
                clear hG NX CB CE TA TB
                cases hm with
                | false =>
                  have HV : Hid (false = R) := by have hh := HG.out; show _ = _; simpa using hh
                  go_wp2_with fail
                  refine (HH.out _ HB42.out).mono ?_; rintro e' w43 ⟨rfl, rfl⟩
                  go_wp2_with fail
                  go_ret
                  exact ⟨ret_bool HV.out, below_2 HBr.out HB42.out⟩
                | true =>
                  go_wp2_with fail
                  refine (HH.out _ HB42.out).mono ?_; rintro e' w43 ⟨rfl, rfl⟩
                  cases rb with
                  | false =>
                    have HV : Hid (false = R) := by have hh := HG.out; show _ = _; simpa using hh
                    go_wp2_with fail
                    refine (CBh.out _ HB42.out).mono ?_; rintro e' w44 ⟨rfl, hb44⟩
                    have HB44 := Lib.hid (below_2 HB42.out hb44)
                    clear hb44 q42_0 q42_1 q42_3 q42_4 q42_5 q42_6 q42_7 q42_8 q42_9 q42_10 q42_11 q42_12
                    go_wp2_with fail
                    go_ret
                    exact ⟨ret_bool HV.out, below_2 HBr.out HB44.out⟩
                  | true =>
                    go_wp2_with fail
                    refine (CBh.out _ HB42.out).mono ?_; rintro e' w45 ⟨rfl, hb45⟩
                    have HB45 := Lib.hid (below_2 HB42.out hb45)
                    have HX45 := Lib.hid (HX42.out.below hb45)
                    clear hb45 q42_0 q42_1 q42_3 q42_4 q42_5 q42_6 q42_7 q42_8 q42_9 q42_10 q42_11 q42_12
                    have q45_0 := HX45.out.cell 0
                    have q45_1 := HX45.out.cell 1
                    have q45_3 := HX45.out.cell 3
                    have q45_4 := HX45.out.cell 4
                    have q45_5 := HX45.out.cell 5
                    have q45_6 := HX45.out.cell 6
                    have q45_7 := HX45.out.cell 7
                    have q45_8 := HX45.out.cell 8
                    have q45_9 := HX45.out.cell 9
                    have q45_10 := HX45.out.cell 10
                    have q45_11 := HX45.out.cell 11
                    have q45_12 := HX45.out.cell 12
                    simp only [List.getElem?_toArray, List.getElem?_cons_zero, List.getElem?_cons_succ] at q45_0 q45_1 q45_3 q45_4 q45_5 q45_6 q45_7 q45_8 q45_9 q45_10 q45_11 q45_12
                    cases re with
                    | false =>
                      have HV : Hid (false = R) := by have hh := HG.out; show _ = _; simpa using hh
                      go_wp2_with fail
                      refine (CEh.out _ HB45.out).mono ?_; rintro e' w46 ⟨rfl, hb46⟩
                      have HB46 := Lib.hid (below_2 HB45.out hb46)
                      clear hb46 q45_0 q45_1 q45_3 q45_4 q45_5 q45_6 q45_7 q45_8 q45_9 q45_10 q45_11 q45_12
                      go_wp2_with fail
                      go_ret
                      exact ⟨ret_bool HV.out, below_2 HBr.out HB46.out⟩
                    | true =>
                      have HX3 : Hid (lcB (mem ns) false (l.drop (k + 1)) = R) := by have hh := HG.out; show _ = _; rw [HRS.out]; simpa using hh
                      go_wp2_with fail
                      refine (CEh.out _ HB45.out).mono ?_; rintro e' w47 ⟨rfl, hb47⟩
                      have HB47 := Lib.hid (below_2 HBr.out (below_2 HB45.out hb47))
                      clear hb47 q45_0 q45_1 q45_3 q45_4 q45_5 q45_6 q45_7 q45_8 q45_9 q45_10 q45_11 q45_12
                      go_wp2_with fail
                      go_roundw
                      case rel => exact ⟨k + 1, by omega, by go_num, HX3.out, HB47.out⟩
                      case measure => simp [intOf]; omega
              | false =>
                have hG := NX.out false (by simp)
                have CBh := Lib.hid (CB.out false)
                have CEh := Lib.hid (CE.out false)
                generalize lcB (mem ns) false bd = rb at hG CBh
                generalize lcB (mem ns) false el = re at hG CEh
                have HG := Lib.hid hG
                clear hG NX CB CE TA TB
                cases rb with
                | false =>
                  have HV : Hid (false = R) := by have hh := HG.out; show _ = _; simpa using hh
                  go_wp2_with fail
                  refine (CBh.out _ HB42.out).mono ?_; rintro e' w48 ⟨rfl, hb48⟩
                  have HB48 := Lib.hid (below_2 HB42.out hb48)
                  clear hb48 q42_0 q42_1 q42_3 q42_4 q42_5 q42_6 q42_7 q42_8 q42_9 q42_10 q42_11 q42_12
                  go_wp2_with fail
                  go_ret
                  exact ⟨ret_bool HV.out, below_2 HBr.out HB48.out⟩
                | true =>
                  go_wp2_with fail
                  refine (CBh.out _ HB42.out).mono ?_; rintro e' w49 ⟨rfl, hb49⟩
                  have HB49 := Lib.hid (below_2 HB42.out hb49)
                  have HX49 := Lib.hid (HX42.out.below hb49)
                  clear hb49 q42_0 q42_1 q42_3 q42_4 q42_5 q42_6 q42_7 q42_8 q42_9 q42_10 q42_11 q42_12
                  have q49_0 := HX49.out.cell 0
                  have q49_1 := HX49.out.cell 1
                  have q49_3 := HX49.out.cell 3
                  have q49_4 := HX49.out.cell 4
                  have q49_5 := HX49.out.cell 5
                  have q49_6 := HX49.out.cell 6
                  have q49_7 := HX49.out.cell 7
                  have q49_8 := HX49.out.cell 8
                  have q49_9 := HX49.out.cell 9
                  have q49_10 := HX49.out.cell 10
                  have q49_11 := HX49.out.cell 11
                  have q49_12 := HX49.out.cell 12
                  simp only [List.getElem?_toArray, List.getElem?_cons_zero, List.getElem?_cons_succ] at q49_0 q49_1 q49_3 q49_4 q49_5 q49_6 q49_7 q49_8 q49_9 q49_10 q49_11 q49_12
                  cases re with
                  | false =>
                    have HV : Hid (false = R) := by have hh := HG.out; show _ = _; simpa using hh
                    go_wp2_with fail
                    refine (CEh.out _ HB49.out).mono ?_; rintro e' w50 ⟨rfl, hb50⟩
                    have HB50 := Lib.hid (below_2 HB49.out hb50)
                    clear hb50 q49_0 q49_1 q49_3 q49_4 q49_5 q49_6 q49_7 q49_8 q49_9 q49_10 q49_11 q49_12
                    go_wp2_with fail
                    go_ret
                    exact ⟨ret_bool HV.out, below_2 HBr.out HB50.out⟩
                  | true =>
                    have HX3 : Hid (lcB (mem ns) false (l.drop (k + 1)) = R) := by have hh := HG.out; show _ = _; rw [HRS.out]; simpa using hh
                    go_wp2_with fail
                    refine (CEh.out _ HB49.out).mono ?_; rintro e' w51 ⟨rfl, hb51⟩
                    have HB51 := Lib.hid (below_2 HBr.out (below_2 HB49.out hb51))
                    clear hb51 q49_0 q49_1 q49_3 q49_4 q49_5 q49_6 q49_7 q49_8 q49_9 q49_10 q49_11 q49_12
                    go_wp2_with fail
                    go_roundw
                    case rel => exact ⟨k + 1, by omega, by go_num, HX3.out, HB51.out⟩
                    case measure => simp [intOf]; omega
          · have b2 : (o0 == 2) = false := beq_eq_false_iff_ne.2 h2
            have d1 : decide (o0 = 1) = false := decide_eq_false h1
            have d2 : decide (o0 = 2) = false := decide_eq_false h2
            have d6 : decide (o0 = 6) = false := decide_eq_false h6
            simp only [d1, d2, d6] at NX
            clear h1 h2 h6 d1 d2 d6
            have y0 := hxz.cell 0
            have y1 := hxz.cell 1
            have y3 := hxz.cell 3
            have y4 := hxz.cell 4
            have y5 := hxz.cell 5
            have y6 := hxz.cell 6
            have y7 := hxz.cell 7
            have y8 := hxz.cell 8
            have y9 := hxz.cell 9
            have y10 := hxz.cell 10
            have y11 := hxz.cell 11
            have y12 := hxz.cell 12
            simp only [List.getElem?_toArray, List.getElem?_cons_zero, List.getElem?_cons_succ] at y0 y1 y3 y4 y5 y6 y7 y8 y9 y10 y11 y12
            clear hxz
            cases u with
            | true =>
              have hG := NX.out true (by simp)
              have CBh := Lib.hid (CB.out true)
              have CEh := Lib.hid (CE.out true)
              generalize lcB (mem ns) true bd = rb at hG CBh
              generalize lcB (mem ns) true el = re at hG CEh
              have HG := Lib.hid hG
              clear hG NX CB CE TA TB
              cases rb with
              | false =>
                have HV : Hid (false = R) := by have hh := HG.out; show _ = _; simpa using hh
                go_wp2_with fail
                refine (CBh.out _ HBz.out).mono ?_; rintro e' w52 ⟨rfl, hb52⟩
                have HB52 := Lib.hid (below_2 HBz.out hb52)
                clear hb52 y0 y1 y3 y4 y5 y6 y7 y8 y9 y10 y11 y12
                go_wp2_with fail
                go_ret
                exact ⟨ret_bool HV.out, below_2 HBr.out HB52.out⟩
              | true =>
                go_wp2_with fail
                refine (CBh.out _ HBz.out).mono ?_; rintro e' w53 ⟨rfl, hb53⟩
                have HB53 := Lib.hid (below_2 HBz.out hb53)
                have HX53 := Lib.hid (HXz.out.below hb53)
                clear hb53 y0 y1 y3 y4 y5 y6 y7 y8 y9 y10 y11 y12
                have q53_0 := HX53.out.cell 0
                have q53_1 := HX53.out.cell 1
                have q53_3 := HX53.out.cell 3
                have q53_4 := HX53.out.cell 4
                have q53_5 := HX53.out.cell 5
                have q53_6 := HX53.out.cell 6
                have q53_7 := HX53.out.cell 7
                have q53_8 := HX53.out.cell 8
                have q53_9 := HX53.out.cell 9
                have q53_10 := HX53.out.cell 10
                have q53_11 := HX53.out.cell 11
                have q53_12 := HX53.out.cell 12
                simp only [List.getElem?_toArray, List.getElem?_cons_zero, List.getElem?_cons_succ] at q53_0 q53_1 q53_3 q53_4 q53_5 q53_6 q53_7 q53_8 q53_9 q53_10 q53_11 q53_12
                cases re with
                | false =>
                  have HV : Hid (false = R) := by have hh := HG.out; show _ = _; simpa using hh
                  go_wp2_with fail
                  refine (CEh.out _ HB53.out).mono ?_; rintro e' w54 ⟨rfl, hb54⟩
                  have HB54 := Lib.hid (below_2 HB53.out hb54)
                  clear hb54 q53_0 q53_1 q53_3 q53_4 q53_5 q53_6 q53_7 q53_8 q53_9 q53_10 q53_11 q53_12
                  go_wp2_with fail
                  go_ret
                  exact ⟨ret_bool HV.out, below_2 HBr.out HB54.out⟩
                | true =>
                  have HX3 : Hid (lcB (mem ns) true (l.drop (k + 1)) = R) := by have hh := HG.out; show _ = _; rw [HRS.out]; simpa using hh
                  go_wp2_with fail
                  refine (CEh.out _ HB53.out).mono ?_; rintro e' w55 ⟨rfl, hb55⟩
                  have HB55 := Lib.hid (below_2 HBr.out (below_2 HB53.out hb55))
                  clear hb55 q53_0 q53_1 q53_3 q53_4 q53_5 q53_6 q53_7 q53_8 q53_9 q53_10 q53_11 q53_12
                  go_wp2_with fail
                  go_roundw
                  case rel => exact ⟨k + 1, by omega, by go_num, HX3.out, HB55.out⟩
                  case measure => simp [intOf]; omega
            | false =>
              go_wp2_with fail
              refine (TA.out _ HBz.out).mono ?_; rintro e' w56 ⟨rfl, hb56⟩
              have HB56 := Lib.hid (below_2 HBz.out hb56)
              have HX56 := Lib.hid (HXz.out.below hb56)
              clear hb56 y0 y1 y3 y4 y5 y6 y7 y8 y9 y10 y11 y12
              have q56_0 := HX56.out.cell 0
              have q56_1 := HX56.out.cell 1
              have q56_3 := HX56.out.cell 3
              have q56_4 := HX56.out.cell 4
              have q56_5 := HX56.out.cell 5
              have q56_6 := HX56.out.cell 6
              have q56_7 := HX56.out.cell 7
              have q56_8 := HX56.out.cell 8
              have q56_9 := HX56.out.cell 9
              have q56_10 := HX56.out.cell 10
              have q56_11 := HX56.out.cell 11
              have q56_12 := HX56.out.cell 12
              simp only [List.getElem?_toArray, List.getElem?_cons_zero, List.getElem?_cons_succ] at q56_0 q56_1 q56_3 q56_4 q56_5 q56_6 q56_7 q56_8 q56_9 q56_10 q56_11 q56_12
              cases ta with
              | true =>
                have hG := NX.out true (by simp)
                have CBh := Lib.hid (CB.out true)
                have CEh := Lib.hid (CE.out true)
                generalize lcB (mem ns) true bd = rb at hG CBh
                generalize lcB (mem ns) true el = re at hG CEh
                have HG := Lib.hid hG
                clear hG NX CB CE TA TB
                cases rb with
                | false =>
                  have HV : Hid (false = R) := by have hh := HG.out; show _ = _; simpa using hh
                  go_wp2_with fail
                  refine (CBh.out _ HB56.out).mono ?_; rintro e' w57 ⟨rfl, hb57⟩
                  have HB57 := Lib.hid (below_2 HB56.out hb57)
                  clear hb57 q56_0 q56_1 q56_3 q56_4 q56_5 q56_6 q56_7 q56_8 q56_9 q56_10 q56_11 q56_12
                  go_wp2_with fail
                  go_ret
                  exact ⟨ret_bool HV.out, below_2 HBr.out HB57.out⟩
                | true =>
                  go_wp2_with fail
                  refine (CBh.out _ HB56.out).mono ?_; rintro e' w58 ⟨rfl, hb58⟩
                  have HB58 := Lib.hid (below_2 HB56.out hb58)
                  have HX58 := Lib.hid (HX56.out.below hb58)
                  clear hb58 q56_0 q56_1 q56_3 q56_4 q56_5 q56_6 q56_7 q56_8 q56_9 q56_10 q56_11 q56_12
                  have q58_0 := HX58.out.cell 0
                  have q58_1 := HX58.out.cell 1
                  have q58_3 := HX58.out.cell 3
                  have q58_4 := HX58.out.cell 4
                  have q58_5 := HX58.out.cell 5
                  have q58_6 := HX58.out.cell 6
                  have q58_7 := HX58.out.cell 7
                  have q58_8 := HX58.out.cell 8
                  have q58_9 := HX58.out.cell 9
                  have q58_10 := HX58.out.cell 10
                  have q58_11 := HX58.out.cell 11
                  have q58_12 := HX58.out.cell 12
                  simp only [List.getElem?_toArray, List.getElem?_cons_zero, List.getElem?_cons_succ] at q58_0 q58_1 q58_3 q58_4 q58_5 q58_6 q58_7 q58_8 q58_9 q58_10 q58_11 q58_12
                  cases re with
                  | false =>
                    have HV : Hid (false = R) := by have hh := HG.out; show _ = _; simpa using hh
                    go_wp2_with fail
                    refine (CEh.out _ HB58.out).mono ?_; rintro e' w59 ⟨rfl, hb59⟩
                    have HB59 := Lib.hid (below_2 HB58.out hb59)
                    clear hb59 q58_0 q58_1 q58_3 q58_4 q58_5 q58_6 q58_7 q58_8 q58_9 q58_10 q58_11 q58_12
                    go_wp2_with fail
                    go_ret
                    exact ⟨ret_bool HV.out, below_2 HBr.out HB59.out⟩
                  | true =>
                    have HX3 : Hid (lcB (mem ns) false (l.drop (k + 1)) = R) := by have hh := HG.out; show _ = _; rw [HRS.out]; simpa using hh
                    go_wp2_with fail
                    refine (CEh.out _ HB58.out).mono ?_; rintro e' w60 ⟨rfl, hb60⟩
                    have HB60 := Lib.hid (below_2 HBr.out (below_2 HB58.out hb60))
                    clear hb60 q58_0 q58_1 q58_3 q58_4 q58_5 q58_6 q58_7 q58_8 q58_9 q58_10 q58_11 q58_12
                    go_wp2_with fail
                    go_roundw
                    case rel => exact ⟨k + 1, by omega, by go_num, HX3.out, HB60.out⟩
                    case measure => simp [intOf]; omega
              | false =>
                have hG := NX.out false (by simp)
                have CBh := Lib.hid (CB.out false)
                have CEh := Lib.hid (CE.out false)
                generalize lcB (mem ns) false bd = rb at hG CBh
                generalize lcB (mem ns) false el = re at hG CEh
                have HG := Lib.hid hG
                clear hG NX CB CE TA TB
                cases rb with
                | false =>
                  have HV : Hid (false = R) := by have hh := HG.out; show _ = _; simpa using hh
                  go_wp2_with fail
                  refine (CBh.out _ HB56.out).mono ?_; rintro e' w61 ⟨rfl, hb61⟩
                  have HB61 := Lib.hid (below_2 HB56.out hb61)
                  clear hb61 q56_0 q56_1 q56_3 q56_4 q56_5 q56_6 q56_7 q56_8 q56_9 q56_10 q56_11 q56_12
                  go_wp2_with fail
                  go_ret
                  exact ⟨ret_bool HV.out, below_2 HBr.out HB61.out⟩
                | true =>
                  go_wp2_with fail
                  refine (CBh.out _ HB56.out).mono ?_; rintro e' w62 ⟨rfl, hb62⟩
                  have HB62 := Lib.hid (below_2 HB56.out hb62)
                  have HX62 := Lib.hid (HX56.out.below hb62)
                  clear hb62 q56_0 q56_1 q56_3 q56_4 q56_5 q56_6 q56_7 q56_8 q56_9 q56_10 q56_11 q56_12
                  have q62_0 := HX62.out.cell 0
                  have q62_1 := HX62.out.cell 1
                  have q62_3 := HX62.out.cell 3
                  have q62_4 := HX62.out.cell 4
                  have q62_5 := HX62.out.cell 5
                  have q62_6 := HX62.out.cell 6
                  have q62_7 := HX62.out.cell 7
                  have q62_8 := HX62.out.cell 8
                  have q62_9 := HX62.out.cell 9
                  have q62_10 := HX62.out.cell 10
                  have q62_11 := HX62.out.cell 11
                  have q62_12 := HX62.out.cell 12
                  simp only [List.getElem?_toArray, List.getElem?_cons_zero, List.getElem?_cons_succ] at q62_0 q62_1 q62_3 q62_4 q62_5 q62_6 q62_7 q62_8 q62_9 q62_10 q62_11 q62_12
                  cases re with
                  | false =>
                    have HV : Hid (false = R) := by have hh := HG.out; show _ = _; simpa using hh
                    go_wp2_with fail
                    refine (CEh.out _ HB62.out).mono ?_; rintro e' w63 ⟨rfl, hb63⟩
                    have HB63 := Lib.hid (below_2 HB62.out hb63)
                    clear hb63 q62_0 q62_1 q62_3 q62_4 q62_5 q62_6 q62_7 q62_8 q62_9 q62_10 q62_11 q62_12
                    go_wp2_with fail
                    go_ret
                    exact ⟨ret_bool HV.out, below_2 HBr.out HB63.out⟩
                  | true =>
                    have HX3 : Hid (lcB (mem ns) false (l.drop (k + 1)) = R) := by have hh := HG.out; show _ = _; rw [HRS.out]; simpa using hh
                    go_wp2_with fail
                    refine (CEh.out _ HB62.out).mono ?_; rintro e' w64 ⟨rfl, hb64⟩
                    have HB64 := Lib.hid (below_2 HBr.out (below_2 HB62.out hb64))
                    clear hb64 q62_0 q62_1 q62_3 q62_4 q62_5 q62_6 q62_7 q62_8 q62_9 q62_10 q62_11 q62_12
                    go_wp2_with fail
                    go_roundw
                    case rel => exact ⟨k + 1, by omega, by go_num, HX3.out, HB64.out⟩
                    case measure => simp [intOf]; omega
    · have hx := HX.out
      rw [List.drop_of_length_le (by have := HL.out; omega), lcB] at hx
      subst hx
      go_wp2_with fail
      go_ret
      exact ⟨rfl, HBr.out⟩
theorem lclosed_any {ns : List ByteArray} (hns : ns.length ≤ 1000000000000000) : ∀ l : List St, QC ns l := by
  refine A.body_ind (Q := fun l => QC ns l) fun l ih => lclosed_step hns ih
end Go.Proofs.YtnelpgeiioflmaaGreatDoor.F
