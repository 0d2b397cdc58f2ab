/-
  What the program's spread of layer 14 does: contract.
  What the program's analyze of layer 14 returns: contract.
-/
import Derived.Test.YtnelpgeiioflmaaGreatDoorM22
import Derived.Test.YtnelpgeiioflmaaGreatDoorM16
namespace Go.Proofs.YtnelpgeiioflmaaGreatDoor.F
open Go.RowKit Go.WideMaps
open L (Str isName prt size_len below_2 below_box ret_bool ret_int eql_eq bytes_eq)
open A (Ex St Pm Pr exV exO exV_mk Bx okE okEs okS okB StKids)

theorem pB_drop {g : ByteArray → Bool} {u : Bool} {l : List St} {k : Nat} (hk : k < l.length) : pB g u (l.drop k) = pB (pS g u l[k]) u (l.drop (k + 1)) := by rw [List.drop_eq_getElem_cons hk, pB]
theorem pS_open (g : ByteArray → Bool) (u : Bool) (s : St) : pS g u s = pB (pB (dl g (hr (nt g) u s.a s.b) s.name) (hr (nt g) u s.a s.b) s.body) (hr (nt g) u s.a s.b) s.els := by
  obtain ⟨o, nm, mx, a, b, bd, el⟩ := s
  rw [pS]; rfl
def Mv (w' : World) (b N n : Nat) (g g' : ByteArray → Bool) : Prop := ∃ n', MU w' b N n' g' ∧ n' ≤ n ∧ (n' = n → g' = g)
def QP (w0 : World) (b N : Nat) (l : List St) : Prop := ∀ (a : Option Addr) (c : Nat) (u : Bool) (w : World) (n : Nat) (g : ByteArray → Bool), okB l → l.length ≤ 1000000000000000 → A.Bodies w0 a l → Below w0.heap.size w0 w → w0.heap.size ≤ b → MU w b N n g →
  Calls Tryz.prog 55 #[.map (some b), .slice a l.length c, .bool u] w fun e' w' => e' = .returned (.tuple #[]) ∧ Mv w' b N n g (pB g u l) ∧ Kb b w w'
set_option maxHeartbeats 16000000 in
set_option maxRecDepth 100000 in
theorem ospread_step {w0 : World} {b N : Nat} {l : List St} (hq : ∀ j (h : j < l.length), QP w0 b N (l[j]).body ∧ QP w0 b N (l[j]).els) : QP w0 b N l := by
  intro a c u w n g hok hl hK hw0 hb0 hM
  have HST := Lib.hid hq
  have HOK := Lib.hid hok
  have HK := Lib.hid hK
  obtain ⟨R, hR⟩ : ∃ R, pB g u l = R := ⟨_, rfl⟩
  rw [hR]
  have HR : Hid (pB g u (l.drop 0) = R) := hR
  have HM0 := Lib.hid hM
  have HW0 : Hid (∀ wc, Kb b w wc → Below w0.heap.size w0 wc) := fun wc h => hw0.trans (h.below hb0 hw0.size)
  have HB0 := Lib.hid hb0
  obtain ⟨m, hm⟩ : ∃ m, l.length = m := ⟨_, rfl⟩
  have HL := Lib.hid hm
  rw [hm] at hl ⊢
  clear hm hR hK hq hok hw0 hb0 hM
  go_enter Tryz.func55, Tryz.ntmps55
  go_wp2_with fail
  go_loopw [11] (fun s11 wr => ∃ (k nk : Nat) (gk : ByteArray → Bool), k ≤ m ∧ s11 = .int .i64 k ∧ Hid (pB gk u (l.drop k) = R) ∧ Hid (MU wr b N nk gk) ∧ Hid (nk ≤ n ∧ (nk = n → gk = g)) ∧ Hid (Kb b w wr)) (fun i _ => m - (intOf i).toNat)
  case atStart => exact ⟨0, n, g, Nat.zero_le _, rfl, HR, HM0.out, ⟨Nat.le_refl _, fun _ => rfl⟩, Kb.refl _ _⟩
  case round =>
    obtain ⟨k, nk, gk, hk, rfl, HX, HMk, HNk, HKr⟩ := hrel
    by_cases hlt : k < m
    · have hlx : k < l.length := by rw [HL.out]; exact hlt
      obtain ⟨b3, i3, rfl, hat⟩ := HK.out.open hlx
      obtain ⟨a1, c1, a2, c2, a3, c3, a4, c4, hcc0, hkk⟩ := hat.open
      have hbr := HW0.out wr HKr.out
      have hcc := hcc0.below hbr
      have hoks := A.okS_open (HOK.out.get k hlx)
      have hx := HX.out
      rw [pB_drop hlx, pS_open] at hx
      obtain ⟨hqb, hqe⟩ := HST.out k hlx
      have TA : Hid (∀ wk, Below wr.heap.size wr wk → Calls Tryz.prog 62 #[.map (some b), exV (l[k]).a a1 c1] wk fun e' w' => e' = .returned (.bool (tE (nt gk) (l[k]).a)) ∧ Below wk.heap.size wk w') := fun wk hb =>
        otainted_any (l[k]).a a1 c1 wk hoks.a (HMk.out.below hb) ((hkk.a.below hbr).below hb)
      have TB : Hid (∀ wk, Below wr.heap.size wr wk → Calls Tryz.prog 62 #[.map (some b), exV (l[k]).b a2 c2] wk fun e' w' => e' = .returned (.bool (tE (nt gk) (l[k]).b)) ∧ Below wk.heap.size wk w') := fun wk hb =>
        otainted_any (l[k]).b a2 c2 wk hoks.b (HMk.out.below hb) ((hkk.b.below hbr).below hb)
      have SB : Hid (∀ wk n2 g2 (h : Bool), Kb b w wk → MU wk b N n2 g2 → Calls Tryz.prog 55 #[.map (some b), .slice a3 (l[k]).body.length c3, .bool h] wk fun e' w' => e' = .returned (.tuple #[]) ∧ Mv w' b N n2 g2 (pB g2 h (l[k]).body) ∧ Kb b wk w') := fun wk n2 g2 h hkb hm2 =>
        hqb a3 c3 h wk n2 g2 hoks.body hoks.bodyLen hkk.body (HW0.out wk hkb) HB0.out hm2
      have SE : Hid (∀ wk n2 g2 (h : Bool), Kb b w wk → MU wk b N n2 g2 → Calls Tryz.prog 55 #[.map (some b), .slice a4 (l[k]).els.length c4, .bool h] wk fun e' w' => e' = .returned (.tuple #[]) ∧ Mv w' b N n2 g2 (pB g2 h (l[k]).els) ∧ Kb b wk w') := fun wk n2 g2 h hkb hm2 =>
        hqe a4 c4 h wk n2 g2 hoks.els hoks.elsLen hkk.els (HW0.out wk hkb) HB0.out hm2
      have NX : Hid (∀ (h : Bool), (u || tE (nt gk) (l[k]).a || tE (nt gk) (l[k]).b) = h → pB (pB (pB (dl gk h (l[k]).name) h (l[k]).body) h (l[k]).els) u (l.drop (k + 1)) = R) := fun h e1 => by
        have e1' : hr (nt gk) u (l[k]).a (l[k]).b = h := e1
        rw [e1'] at hx
        exact hx
      have HSZ : Hid ((l[k]).name.size ≤ maxLen) := by have := hoks.name; show _ ≤ _; unfold maxLen; omega
      have hsb : wr.heap.size ≠ b := Nat.ne_of_gt HMk.out.lt
      have HNE := Lib.hid hsb
      have hbz := below_box wr (A.stO l[k] a1 c1 a2 c2 a3 c3 a4 c4)
      have hxz := Bx.new wr (stF l[k] a1 c1 a2 c2 a3 c3 a4 c4) 44
      have f0 := hcc.k0
      have f1 := hcc.k1
      have f2 := hcc.k2
      have f3 := hcc.k3
      have f4 := hcc.k4
      have f5 := hcc.k5
      have f6 := hcc.k6
      have f7 := hcc.k7
      have f8 := hcc.k8
      have f9 := hcc.k9
      have f10 := hcc.k10
      have f11 := hcc.k11
      have f12 := hcc.k12
      clear hat hcc0 hkk hcc hoks hqb hqe HX hx hbr hsb
      unfold A.stO at hbz
      unfold stF at hxz
      unfold exV at TA TB
      generalize tE (nt gk) (l[k]).a = ta at *
      generalize tE (nt gk) (l[k]).b = tb at *
      generalize (l[k]).a.args.length = n1 at *
      generalize (l[k]).b.args.length = n2 at *
      generalize (l[k]).a.op = o1 at *
      generalize (l[k]).a.n = m1 at *
      generalize (l[k]).a.s = s1 at *
      generalize (l[k]).b.op = o2 at *
      generalize (l[k]).b.n = m2 at *
      generalize (l[k]).b.s = s2 at *
      generalize (l[k]).body.length = n3 at *
      generalize (l[k]).els.length = n4 at *
      generalize (l[k]).body = bd at *
      generalize (l[k]).els = el at *
      generalize (l[k]).op = o0 at *
      generalize (l[k]).name = s0 at *
      generalize (l[k]).mx = m0 at *
      have HXz := Lib.hid hxz
      have HBz := Lib.hid hbz
      clear hbz
      have y0 := hxz.cell 0
      have y1 := hxz.cell 1
      have y3 := hxz.cell 3
      have y4 := hxz.cell 4
      have y5 := hxz.cell 5
      have y6 := hxz.cell 6
      have y7 := hxz.cell 7
      have y8 := hxz.cell 8
      have y9 := hxz.cell 9
      have y10 := hxz.cell 10
      have y11 := hxz.cell 11
      have y12 := hxz.cell 12
      simp only [List.getElem?_toArray, List.getElem?_cons_zero, List.getElem?_cons_succ] at y0 y1 y3 y4 y5 y6 y7 y8 y9 y10 y11 y12
      cases u with
      | true =>
        have HB1 := HBz
        have HMc := Lib.hid (HMk.out.below HB1.out)
        have HG := Lib.hid (NX.out true (by simp))
        have HKc := Lib.hid (HKr.out.trans (Kb.of HB1.out))
        clear TA TB
        obtain ⟨w5, hrun, ⟨n5, hm5, hl5, hf5⟩, ho5⟩ := HMc.out.del_run HSZ.out 0
        have HX5 := Lib.hid ((Kb.only ho5).bx HXz.out HNE.out)
        have z11 := HX5.out.cell 11
        simp only [List.getElem?_toArray, List.getElem?_cons_zero, List.getElem?_cons_succ] at z11
        have HM5 := Lib.hid hm5
        have HF5 := Lib.hid hf5
        have HK5 := Lib.hid (HKc.out.trans (Kb.only ho5))
        clear hm5 hf5 ho5
        go_wp2_with fail
        refine (SB.out _ n5 _ true HK5.out HM5.out).mono ?_; rintro e' w7 ⟨rfl, ⟨n7, hm7, hl7, hf7⟩, hk7⟩
        have HX7 := Lib.hid (hk7.bx HX5.out HNE.out)
        have HM7 := Lib.hid hm7
        have HF7 := Lib.hid hf7
        have HK7 := Lib.hid (HK5.out.trans hk7)
        have q12 := HX7.out.cell 12
        simp only [List.getElem?_toArray, List.getElem?_cons_zero, List.getElem?_cons_succ] at q12
        clear hm7 hf7 hk7 z11 hrun y0 y1 y3 y4 y5 y6 y7 y8 y9 y10 y11 y12
        go_wp2_with fail
        refine (SE.out _ n7 _ true HK7.out HM7.out).mono ?_; rintro e' w8 ⟨rfl, ⟨n8, hm8, hl8, hf8⟩, hk8⟩
        have HM8 := Lib.hid hm8
        have HK8 := Lib.hid (HK7.out.trans hk8)
        have HN8 : Hid (n8 ≤ n ∧ (n8 = n → pB (pB (dl gk true s0) true bd) true el = g)) := by
          obtain ⟨h1, h2⟩ := HNk.out
          refine ⟨by omega, fun e => ?_⟩
          rw [hf8 (by omega), HF7.out (by omega), HF5.out (by omega)]
          exact h2 (by omega)
        clear hm8 hf8 hk8 q12
        go_wp2_with fail
        go_roundw
        case rel => exact ⟨k + 1, n8, _, by omega, by go_num, HG.out, HM8.out, HN8.out, HK8.out⟩
        case measure => simp [intOf]; omega
      | false =>
        go_wp2_with fail
        refine (TA.out _ HBz.out).mono ?_; rintro e' w1 ⟨rfl, hb1⟩
        have HB1 := Lib.hid (below_2 HBz.out hb1)
        have HX1 := Lib.hid (HXz.out.below hb1)
        clear hb1 y0 y1 y3 y4 y5 y6 y7 y8 y9 y10 y11 y12
        have v0 := HX1.out.cell 0
        have v1 := HX1.out.cell 1
        have v3 := HX1.out.cell 3
        have v4 := HX1.out.cell 4
        have v5 := HX1.out.cell 5
        have v6 := HX1.out.cell 6
        have v7 := HX1.out.cell 7
        have v8 := HX1.out.cell 8
        have v9 := HX1.out.cell 9
        have v10 := HX1.out.cell 10
        have v11 := HX1.out.cell 11
        have v12 := HX1.out.cell 12
        simp only [List.getElem?_toArray, List.getElem?_cons_zero, List.getElem?_cons_succ] at v0 v1 v3 v4 v5 v6 v7 v8 v9 v10 v11 v12
        cases ta with
        | true =>
          have HMc := Lib.hid (HMk.out.below HB1.out)
          have HG := Lib.hid (NX.out true (by simp))
          have HKc := Lib.hid (HKr.out.trans (Kb.of HB1.out))
          clear TA TB
          obtain ⟨w5, hrun, ⟨n5, hm5, hl5, hf5⟩, ho5⟩ := HMc.out.del_run HSZ.out 0
          have HX5 := Lib.hid ((Kb.only ho5).bx HX1.out HNE.out)
          have z11 := HX5.out.cell 11
          simp only [List.getElem?_toArray, List.getElem?_cons_zero, List.getElem?_cons_succ] at z11
          have HM5 := Lib.hid hm5
          have HF5 := Lib.hid hf5
          have HK5 := Lib.hid (HKc.out.trans (Kb.only ho5))
          clear hm5 hf5 ho5
          go_wp2_with fail
          refine (SB.out _ n5 _ true HK5.out HM5.out).mono ?_; rintro e' w7 ⟨rfl, ⟨n7, hm7, hl7, hf7⟩, hk7⟩
          have HX7 := Lib.hid (hk7.bx HX5.out HNE.out)
          have HM7 := Lib.hid hm7
          have HF7 := Lib.hid hf7
          have HK7 := Lib.hid (HK5.out.trans hk7)
          have q12 := HX7.out.cell 12
          simp only [List.getElem?_toArray, List.getElem?_cons_zero, List.getElem?_cons_succ] at q12
          clear hm7 hf7 hk7 z11 hrun v0 v1 v3 v4 v5 v6 v7 v8 v9 v10 v11 v12
          go_wp2_with fail
          refine (SE.out _ n7 _ true HK7.out HM7.out).mono ?_; rintro e' w8 ⟨rfl, ⟨n8, hm8, hl8, hf8⟩, hk8⟩
          have HM8 := Lib.hid hm8
          have HK8 := Lib.hid (HK7.out.trans hk8)
          have HN8 : Hid (n8 ≤ n ∧ (n8 = n → pB (pB (dl gk true s0) true bd) true el = g)) := by
            obtain ⟨h1, h2⟩ := HNk.out
            refine ⟨by omega, fun e => ?_⟩
            rw [hf8 (by omega), HF7.out (by omega), HF5.out (by omega)]
            exact h2 (by omega)
          clear hm8 hf8 hk8 q12
          go_wp2_with fail
          go_roundw
          case rel => exact ⟨k + 1, n8, _, by omega, by go_num, HG.out, HM8.out, HN8.out, HK8.out⟩
          case measure => simp [intOf]; omega
        | false =>
          go_wp2_with fail
          refine (TB.out _ HB1.out).mono ?_; rintro e' w2 ⟨rfl, hb2⟩
          have HB2 := Lib.hid (below_2 HB1.out hb2)
          have HX2 := Lib.hid (HX1.out.below hb2)
          clear hb2 v0 v1 v3 v4 v5 v6 v7 v8 v9 v10 v11 v12
          have x0 := HX2.out.cell 0
          have x1 := HX2.out.cell 1
          have x3 := HX2.out.cell 3
          have x4 := HX2.out.cell 4
          have x5 := HX2.out.cell 5
          have x6 := HX2.out.cell 6
          have x7 := HX2.out.cell 7
          have x8 := HX2.out.cell 8
          have x9 := HX2.out.cell 9
          have x10 := HX2.out.cell 10
          have x11 := HX2.out.cell 11
          have x12 := HX2.out.cell 12
          simp only [List.getElem?_toArray, List.getElem?_cons_zero, List.getElem?_cons_succ] at x0 x1 x3 x4 x5 x6 x7 x8 x9 x10 x11 x12
          cases tb with
          | true =>
            have HMc := Lib.hid (HMk.out.below HB2.out)
            have HG := Lib.hid (NX.out true (by simp))
            have HKc := Lib.hid (HKr.out.trans (Kb.of HB2.out))
            clear TA TB
            obtain ⟨w5, hrun, ⟨n5, hm5, hl5, hf5⟩, ho5⟩ := HMc.out.del_run HSZ.out 0
            have HX5 := Lib.hid ((Kb.only ho5).bx HX2.out HNE.out)
            have z11 := HX5.out.cell 11
            simp only [List.getElem?_toArray, List.getElem?_cons_zero, List.getElem?_cons_succ] at z11
            have HM5 := Lib.hid hm5
            have HF5 := Lib.hid hf5
            have HK5 := Lib.hid (HKc.out.trans (Kb.only ho5))
            clear hm5 hf5 ho5
            go_wp2_with fail
            refine (SB.out _ n5 _ true HK5.out HM5.out).mono ?_; rintro e' w7 ⟨rfl, ⟨n7, hm7, hl7, hf7⟩, hk7⟩
            have HX7 := Lib.hid (hk7.bx HX5.out HNE.out)
            have HM7 := Lib.hid hm7
            have HF7 := Lib.hid hf7
            have HK7 := Lib.hid (HK5.out.trans hk7)
            have q12 := HX7.out.cell 12
            simp only [List.getElem?_toArray, List.getElem?_cons_zero, List.getElem?_cons_succ] at q12
            clear hm7 hf7 hk7 z11 hrun x0 x1 x3 x4 x5 x6 x7 x8 x9 x10 x11 x12
            go_wp2_with fail
            refine (SE.out _ n7 _ true HK7.out HM7.out).mono ?_; rintro e' w8 ⟨rfl, ⟨n8, hm8, hl8, hf8⟩, hk8⟩
            have HM8 := Lib.hid hm8
            have HK8 := Lib.hid (HK7.out.trans hk8)
            have HN8 : Hid (n8 ≤ n ∧ (n8 = n → pB (pB (dl gk true s0) true bd) true el = g)) := by
              obtain ⟨h1, h2⟩ := HNk.out
              refine ⟨by omega, fun e => ?_⟩
              rw [hf8 (by omega), HF7.out (by omega), HF5.out (by omega)]
              exact h2 (by omega)
            clear hm8 hf8 hk8 q12
            go_wp2_with fail
            go_roundw
            case rel => exact ⟨k + 1, n8, _, by omega, by go_num, HG.out, HM8.out, HN8.out, HK8.out⟩
            case measure => simp [intOf]; omega
          | false =>
            have HMc := Lib.hid (HMk.out.below HB2.out)
            have HG := Lib.hid (NX.out false (by simp))
            have HKc := Lib.hid (HKr.out.trans (Kb.of HB2.out))
            clear TA TB
            go_wp2_with fail
            refine (SB.out _ nk gk false HKc.out HMc.out).mono ?_; rintro e' w7 ⟨rfl, ⟨n7, hm7, hl7, hf7⟩, hk7⟩
            have HX7 := Lib.hid (hk7.bx HX2.out HNE.out)
            have HM7 := Lib.hid hm7
            have HF7 := Lib.hid hf7
            have HK7 := Lib.hid (HKc.out.trans hk7)
            have q12 := HX7.out.cell 12
            simp only [List.getElem?_toArray, List.getElem?_cons_zero, List.getElem?_cons_succ] at q12
            clear hm7 hf7 hk7 x0 x1 x3 x4 x5 x6 x7 x8 x9 x10 x11 x12
            go_wp2_with fail
            refine (SE.out _ n7 _ false HK7.out HM7.out).mono ?_; rintro e' w8 ⟨rfl, ⟨n8, hm8, hl8, hf8⟩, hk8⟩
            have HM8 := Lib.hid hm8
            have HK8 := Lib.hid (HK7.out.trans hk8)
            have HN8 : Hid (n8 ≤ n ∧ (n8 = n → pB (pB gk false bd) false el = g)) := by
              obtain ⟨h1, h2⟩ := HNk.out
              refine ⟨by omega, fun e => ?_⟩
              rw [hf8 (by omega), HF7.out (by omega)]
              exact h2 (by omega)
            clear hm8 hf8 hk8 q12
            go_wp2_with fail
            go_roundw
            case rel => exact ⟨k + 1, n8, _, by omega, by go_num, HG.out, HM8.out, HN8.out, HK8.out⟩
            case measure => simp [intOf]; omega
    · have hx := HX.out
      rw [List.drop_of_length_le (by have := HL.out; omega), pB] at hx
      subst hx
      go_wp2_with fail
      go_end0
      exact ⟨rfl, ⟨nk, HMk.out, HNk.out.1, HNk.out.2⟩, HKr.out⟩
theorem ospread_any {w0 : World} {b N : Nat} : ∀ l : List St, QP w0 b N l := by
  refine A.body_ind (Q := fun l => QP w0 b N l) fun l ih => ospread_step ih
end Go.Proofs.YtnelpgeiioflmaaGreatDoor.F
namespace Go.Proofs.YtnelpgeiioflmaaGreatDoor.F
open Go.RowKit Go.WideMaps
open L (Str isName prt size_len below_2 below_box ret_bool ret_int eql_eq bytes_eq)
open A (Ex St Pm Pr exV exO Bx okB PrIn OkP prV prO names GivesN StrsAt cB)
open Y (chk Tb MB setB isIn wpList_set)

def GivesU (w : World) (p : Pr) (e' : Ending) (w' : World) : Prop :=
  ((chk p).2 ≠ 0 ∧ e' = .returned (.tuple #[.map none, .bool false]) ∧ Below w.heap.size w w') ∨
  ((chk p).2 = 0 ∧ ∃ b N n g, e' = .returned (.tuple #[.map (some b), .bool true]) ∧ MU w' b N n g ∧ Fin p g ∧ w.heap.size ≤ b ∧ Below w.heap.size w w')
def Lp (p : Pr) (M n : Nat) (g : ByteArray → Bool) (s : Int) : Prop := n ≤ M ∧ Run p g ∧ (s = -1 ∨ ∃ n0 : Nat, s = (n0 : Int) ∧ n ≤ n0 ∧ n0 ≤ M ∧ (n = n0 → pB g false p.body = g))
theorem Lp.next {p : Pr} {M n n2 : Nat} {g : ByteArray → Bool} {s : Int} (hc : (chk p).2 = 0) (h : Lp p M n g s) (h2 : n2 ≤ n) (hf : n2 = n → pB g false p.body = g) : Lp p M n2 (pB g false p.body) (n : Int) :=
  ⟨Nat.le_trans h2 h.1, h.2.1.next hc, Or.inr ⟨n, rfl, h2, h.1, fun e => by rw [hf e]; exact hf e⟩⟩
set_option maxHeartbeats 16000000 in
set_option maxRecDepth 100000 in
theorem oanalyze_any (p : Pr) (a1 a2 : Option Addr) (c1 c2 : Nat) (hok : OkP p) (hsz : cB p.body ≤ 900000) (hpl : p.params.length ≤ 1000) (hps : ∀ j (h : j < p.params.length), p.params[j].name.size ≤ 281474976710656) (hc1 : p.params.length ≤ c1) (w : World) (ht : Tb w) (hK : PrIn w p a1 a2) :
    Calls Tryz.prog 33 #[prV p a1 c1 a2 c2] w (GivesU w p) := by
  have hb := below_box w (prO p a1 c1 a2 c2)
  have hbx := Bx.new w #[.string p.name, .slice a1 p.params.length c1, .slice a2 p.body.length c2] 25
  have HC := Lib.hid (Y.oCheck_any p a1 a2 c1 c2 hok hsz hpl hps hc1 _ (ht.below hb) (hK.below hb))
  have HNM := Lib.hid (fun w' hK => A.onames_any p a1 a2 c1 c2 hok hsz hpl hps w' hK)
  have hb2 := hK.below hb
  have HSP : Hid (∀ b N n g w', w.heap.size + 1 ≤ b → Below (w.alloc (prO p a1 c1 a2 c2)).heap.size (w.alloc (prO p a1 c1 a2 c2)) w' → MU w' b N n g → Calls Tryz.prog 55 #[.map (some b), .slice a2 p.body.length c2, .bool false] w' fun e' w'' => e' = .returned (.tuple #[]) ∧ Mv w'' b N n g (pB g false p.body) ∧ Kb b w' w'') := fun b N n g w' h1 h2 h3 =>
    ospread_any (w0 := w.alloc (prO p a1 c1 a2 c2)) p.body a2 c2 false w' n g hok.body hok.bodyLen hb2.body h2 (by simpa using h1) h3
  have hnl := A.names_len p hpl
  have HB := Lib.hid hb
  have HBX := Lib.hid hbx
  have HK := Lib.hid hb2
  have HVB : Hid ((chk p).2 = 0 → ∀ x ∈ names p, x.size ≤ 16) := fun h => (Y.val_body ((Y.chk_main p).2 h).val).2.2.2.2.2
  have HFN : Hid ((chk p).2 = 0 → ∀ g, Run p g → pB g false p.body = g → Fin p g) := fun _ g h1 h2 => ⟨h1, h2⟩
  have HNX : Hid ((chk p).2 = 0 → ∀ {M n n2 : Nat} {g : ByteArray → Bool} {s : Int}, Lp p M n g s → n2 ≤ n → (n2 = n → pB g false p.body = g) → Lp p M n2 (pB g false p.body) (n : Int)) := fun h => Lp.next h
  have HSt := Lib.hid (Run.start p)
  have hmm := @run_makeMap Tryz.prog
  have HPost : Hid (∀ e' w', GivesU w p e' w' ↔ ((chk p).2 ≠ 0 ∧ e' = .returned (.tuple #[.map none, .bool false]) ∧ Below w.heap.size w w') ∨
    ((chk p).2 = 0 ∧ ∃ b N n g, e' = .returned (.tuple #[.map (some b), .bool true]) ∧ MU w' b N n g ∧ Fin p g ∧ w.heap.size ≤ b ∧ Below w.heap.size w w')) := fun _ _ => Iff.rfl
  generalize (chk p).2 = z at *
  obtain ⟨m, hm⟩ : ∃ m, p.params.length = m := ⟨_, rfl⟩
  unfold prO at *
  unfold prV at *
  rw [hm] at HC HNM HSP HB HBX HK ⊢
  clear hok hsz hpl hps hc1 hK hb hbx ht hm hb2
  have x0 := HBX.out.cell 0
  have x1 := HBX.out.cell 1
  have x2 := HBX.out.cell 2
  simp only [List.getElem?_toArray, List.getElem?_cons_zero, List.getElem?_cons_succ] at x0 x1 x2
  by_cases hz : z = 0
  case neg =>
    have b1 : (z != 0) = true := bne_iff_ne.2 hz
    have HP : Hid (∀ w', Below w.heap.size w w' → GivesU w p (.returned (.tuple #[.map none, .bool false])) w') := fun w' h => (HPost.out _ _).2 (Or.inl ⟨hz, rfl, h⟩)
    clear hz
    go_enter Tryz.func33, Tryz.ntmps33
    go_wp2_with fail
    refine HC.out.mono ?_; rintro e' w2 ⟨rfl, hb2⟩
    have HB2 := Lib.hid (below_2 HB.out hb2)
    clear hb2
    go_wp2_with fail
    go_ret2
    exact HP.out _ HB2.out
  subst hz
  have HP : Hid (∀ b N n g w', MU w' b N n g → Fin p g → w.heap.size ≤ b → Below w.heap.size w w' → GivesU w p (.returned (.tuple #[.map (some b), .bool true])) w') := fun b N n g w' h1 h2 h3 h4 => (HPost.out _ _).2 (Or.inr ⟨rfl, b, N, n, g, rfl, h1, h2, h3, h4⟩)
  have HFN2 : Hid (∀ g, Run p g → pB g false p.body = g → Fin p g) := HFN.out rfl
  have HNX2 : Hid (∀ {M n n2 : Nat} {g : ByteArray → Bool} {s : Int}, Lp p M n g s → n2 ≤ n → (n2 = n → pB g false p.body = g) → Lp p M n2 (pB g false p.body) (n : Int)) := HNX.out rfl
  have HVB2 : Hid (∀ x ∈ names p, x.size ≤ 16) := HVB.out rfl
  clear HFN HNX HVB HPost
  go_enter Tryz.func33, Tryz.ntmps33
  go_wp2_with fail
  refine HC.out.mono ?_; rintro e' w2 ⟨rfl, hb2⟩
  have HB2 := Lib.hid hb2
  have hbx2 := HBX.out.below hb2
  have HBX2 := Lib.hid hbx2
  have hw2 : w.heap.size + 1 ≤ w2.heap.size := by have := hb2.size; simpa using this
  have hbm := below_box w2 (.map #[] 0)
  have hbx3 := hbx2.below hbm
  have y0 := hbx3.cell 0
  have y1 := hbx3.cell 1
  have y2 := hbx3.cell 2
  simp only [List.getElem?_toArray, List.getElem?_cons_zero, List.getElem?_cons_succ] at y0 y1 y2
  have HM0 := Lib.hid (MB.made w2)
  have HN3 := Lib.hid (HNM.out _ (HK.out.below (below_2 hb2 hbm)))
  have HB3 := Lib.hid (below_2 hb2 hbm)
  have HS1 := Lib.hid hw2
  clear hb2 hbx2 hbm hbx3 hw2 x0 x1 x2
  go_wp2_with fail
  refine HN3.out.mono ?_; rintro e' w4 ⟨pn, qn, rfl, hqn, hsn, hb4⟩
  have HNs := Lib.hid hsn
  have HB4 := Lib.hid (below_2 HB3.out hb4)
  have HM4 := Lib.hid (HM0.out.below hb4)
  have HS4 : Hid (w2.heap.size < w4.heap.size) := HM4.out.lt
  obtain ⟨m2, hm2⟩ : ∃ m, (names p).length = m := ⟨_, rfl⟩
  have HL2 := Lib.hid hm2
  have hmn : m2 ≤ 1000000 := by have := hnl; omega
  rw [hm2] at hnl ⊢
  clear hb4 hsn hqn y0 y1 y2 hm2 HN3 HM0 hnl
  go_wp2_with fail
  go_loopw [15] (fun s15 wr => ∃ k : Nat, k ≤ m2 ∧ s15 = .int .i64 k ∧ Hid (MB wr w2.heap.size k (fun y => isIn y ((names p).take k))) ∧ Hid (Kb w2.heap.size w4 wr)) (fun s15 _ => m2 - (intOf s15).toNat)
  case atStart => exact ⟨0, Nat.zero_le _, rfl, HM4.out, Kb.refl _ _⟩
  case round =>
    obtain ⟨k, hk, rfl, HM, HKr⟩ := hrel
    have hbr : Below w2.heap.size w4 wr := HKr.out.below (Nat.le_refl _) (Nat.le_of_lt HS4.out)
    by_cases hlt : k < m2
    · have hlx : k < (names p).length := by rw [HL2.out]; exact hlt
      obtain ⟨b3, i3, rfl, hcc⟩ := HNs.out.open hlx
      have f00 := hcc k hlx
      have hsz := HVB2.out _ (List.getElem_mem hlx)
      have htk : (names p).take (k + 1) = (names p).take k ++ [(names p)[k]] := List.take_succ_eq_append_getElem hlx
      have HTK := Lib.hid htk
      have hne : b3 ≠ w2.heap.size := fun e => by
        obtain ⟨D, ⟨es, clock, h1, -⟩, -⟩ := HM4.out
        rw [e] at f00
        simp [World.cell?, h1] at f00
      have f0 : wr.cell? ⟨b3, i3 + k, none⟩ = some (.string (names p)[k]) := (World.cell?_of_block (w := w4) (HKr.out.block b3 (block_lt_of_cell f00) hne)).trans f00
      clear f00
      generalize (names p)[k] = x at f0 hsz HTK
      have HM2 := Lib.hid HM.out
      clear hcc htk
      go_wp2_with (at_mapUpdate; refine wpList_set rfl _ _ _ 55 rfl Tryz.underlying55 w2.heap.size k _ rfl HM2.out (by unfold maxLen; omega) x rfl (by unfold maxLen; omega) rfl ?_; intro w5 hm5 ho5)
      have HM5 : Hid (MB w5 w2.heap.size (k + 1) (fun y => isIn y ((names p).take (k + 1)))) := by
        show MB _ _ _ _
        rw [HTK.out, ← Y.setB_is]; exact hm5
      have HK5 : Hid (Kb w2.heap.size w4 w5) := HKr.out.trans (Kb.only ho5)
      clear hm5 ho5 f0
      go_wp2_with fail
      go_roundw
      case rel => exact ⟨k + 1, by omega, by go_num, HM5.out, HK5.out⟩
      case measure => simp [intOf]; omega
    · have hkm : k = m2 := by omega
      subst hkm
      have hm := HM.out
      rw [List.take_of_length_le (by rw [HL2.out]; omega)] at hm
      obtain ⟨n0, hmu⟩ := MU.of hm
      have HMU := Lib.hid hmu
      have HN0 : Hid (n0 ≤ k) := by
        obtain ⟨D, h1, -, h3⟩ := hmu
        have := h1.size_le
        show _ ≤ _
        omega
      have HLp0 : Hid (Lp p k n0 (mem (names p)) (-1)) := ⟨HN0.out, HSt.out, Or.inl rfl⟩
      clear hm hmu hbr
      go_wp2_with fail
      go_loopw [7] (fun s7 wq => ∃ (s : Int) (n : Nat) (g : ByteArray → Bool), s7 = .int .i64 s ∧ Hid (MU wq w2.heap.size k n g) ∧ Hid (Lp p k n g s) ∧ -1 ≤ s ∧ Hid (Kb w2.heap.size w4 wq)) (fun s7 _ => if intOf s7 < 0 then k + 1 else (intOf s7).toNat)
      case atStart => exact ⟨-1, n0, _, rfl, HMU.out, HLp0.out, by omega, HKr.out⟩
      case round =>
        obtain ⟨s, n, g, rfl, HMq, HLq, hs1, HKq⟩ := hrel
        have hlen := fun ty => HMq.out.len ty
        have hbq : Below w2.heap.size w4 wr := HKq.out.below (Nat.le_refl _) (Nat.le_of_lt HS4.out)
        have hbq2 : Below (w.alloc (.cells #[.string p.name, .slice a1 m c1, .slice a2 p.body.length c2] 25)).heap.size (w.alloc (.cells #[.string p.name, .slice a1 m c1, .slice a2 p.body.length c2] 25)) wr := HB4.out.trans (hbq.mono (by have := HS1.out; simp; omega))
        have HBq := Lib.hid hbq2
        have hx := HBX.out.below hbq2
        have y2 := hx.cell 2
        simp only [List.getElem?_toArray, List.getElem?_cons_zero, List.getElem?_cons_succ] at y2
        clear hbq hbq2 hx
        by_cases hsn : s = (n : Int)
        · subst hsn
          have hF : Fin p g := by
            obtain ⟨h1, h2, h3⟩ := HLq.out
            rcases h3 with h3 | ⟨n1, h3, h4, h5, h6⟩
            · omega
            · exact HFN2.out g h2 (h6 (by omega))
          have HV : Hid (GivesU w p (.returned (.tuple #[.map (some w2.heap.size), .bool true])) wr) := HP.out _ _ _ g _ HMq.out hF (by have := HS1.out; omega) (below_2 HB.out HBq.out)
          clear hF hs1
          go_wp2_with fail
          go_ret2
          exact HV.out
        · have bn : (s != (n : Int)) = true := bne_iff_ne.2 hsn
          have HC5 := Lib.hid (HSP.out w2.heap.size k n g wr HS1.out HBq.out HMq.out)
          have HMs : Hid (s = -1 ∨ ∃ n1 : Nat, s = (n1 : Int) ∧ n < n1) := by
            obtain ⟨h1, h2, h3⟩ := HLq.out
            rcases h3 with h3 | ⟨n1, h3, h4, h5, h6⟩
            · exact Or.inl h3
            · exact Or.inr ⟨n1, h3, by omega⟩
          have HNk : Hid (n ≤ k) := HLq.out.1
          clear hsn
          go_wp2_with fail
          refine HC5.out.mono ?_; rintro e' w7 ⟨rfl, ⟨n7, hm7, hl7, hf7⟩, hk7⟩
          have HM7 := Lib.hid hm7
          have HL7 : Hid (Lp p k n7 (pB g false p.body) (n : Int)) := HNX2.out HLq.out hl7 hf7
          have HK7 := Lib.hid (HKq.out.trans hk7)
          clear hm7 hf7 hk7 y2 hlen
          go_wp2_with fail
          go_roundw
          case rel => exact ⟨(n : Int), n7, _, by go_num, HM7.out, HL7.out, by omega, HK7.out⟩
          case measure =>
            have hn0 : ¬ ((n : Int) < 0) := by omega
            have hnk := HNk.out
            rcases HMs.out with rfl | ⟨n1, rfl, h4⟩
            · simp [intOf, hn0]; omega
            · have hn1 : ¬ ((n1 : Int) < 0) := by omega
              simp [intOf, hn0, hn1]; omega
end Go.Proofs.YtnelpgeiioflmaaGreatDoor.F
