/-
  What the program's function Check of layer 12 returns: its contract.
  The law package of layer 12: clean and cleanAll: contracts.
  The law package of layer 12: the examples: contract.
  The laws of layer 12: Check accepts exactly the procedures that types.Check accepts and that have no nondeterministic operator.
-/
import Derived.Test.YtgjnddjpinhkgaaDoorM16
import Derived.Test.YtgjnddjpinhkgaaDoorM17
import Derived.Test.YtgjnddjpinhkgaaDoorM11
import Derived.Test.YtgjnddjpinhkgaaDoorM15
import Derived.Test.YtgjnddjpinhkgaaDoorM03
import Derived.Test.YtgjnddjpinhkgaaDoorM07
import Derived.Test.YtgjnddjpinhkgaaDoorM09
namespace Go.Proofs.YtgjnddjpinhkgaaDoor.N
open Go.RowKit
open A (Ex Pr exprs exV exO okE prV prO OkP PrIn GivesXs)
open L (below_2 below_box ret_bool ret_int)

/-- Check -/
def checkN (p : Pr) : Int := if (Y.chk p).2 ≠ 0 then (Y.chk p).2 else if (firstN p).2.2 = true then 12 else 0
theorem oFirst_all (p : Pr) (a1 a2 : Option Addr) (c1 c2 : Nat) (hok : OkP p) (hc1 : p.params.length ≤ c1) (w : World) (hK : PrIn w p a1 a2) :
    Calls Tryd.prog 25 #[prV p a1 c1 a2 c2] w fun e' w' => e' = .returned (.tuple #[.int .i64 (firstN p).1, .int .i64 (firstN p).2.1, .bool (firstN p).2.2]) ∧ Below w.heap.size w w' :=
  oFirst_any p a1 a2 c1 c2 (fun w' h => A.UB.ovalidate_any p a1 a2 c1 c2 hok hc1 w' h) (fun h0 w' h => A.oexprs_any p a1 a2 c1 c2 hok (by have := val_cB h0; omega) w' h) (fun _ e he => (A.exprs_ve hok.body e he).1) w hK
set_option maxHeartbeats 4000000 in
set_option maxRecDepth 100000 in
theorem oCheck_any (p : Pr) (a1 a2 : Option Addr) (c1 c2 : Nat) (hok : OkP p) (hc1 : p.params.length ≤ c1) (w : World) (ht : Y.Tb w) (hK : PrIn w p a1 a2) :
    Calls Tryd.prog 23 #[prV p a1 c1 a2 c2] w fun e' w' => e' = .returned (.int .i64 (checkN p)) ∧ Below w.heap.size w w' := by
  have hb := below_box w (prO p a1 c1 a2 c2)
  have hbx := A.Bx.new w #[.string p.name, .slice a1 p.params.length c1, .slice a2 p.body.length c2] 25
  have HC := Lib.hid (Y.oCheck_all p a1 a2 c1 c2 hok hc1 _ (ht.below hb) (hK.below hb))
  have HF := Lib.hid (fun w' h => oFirst_all p a1 a2 c1 c2 hok hc1 w' h)
  have HK := Lib.hid (hK.below hb)
  have HB := Lib.hid hb
  have HX := Lib.hid hbx
  have hch : checkN p = if (Y.chk p).2 ≠ 0 then (Y.chk p).2 else if (firstN p).2.2 = true then 12 else 0 := rfl
  obtain ⟨R, hR⟩ : ∃ R, checkN p = R := ⟨_, rfl⟩
  rw [hR] at hch ⊢
  have HR := Lib.hid hch
  generalize (Y.chk p).2 = x at *
  generalize firstN p = y at *
  obtain ⟨y1, y2, y3⟩ := y
  unfold prO at *
  unfold prV at *
  clear hok hc1 hK hb hbx ht hch hR
  by_cases h0 : x = 0
  case neg =>
    have b1 : (x != 0) = true := bne_iff_ne.2 h0
    have HV : Hid (R = x) := by show _ = _; rw [HR.out, if_pos h0]
    clear h0
    go_enter Tryd.func23, Tryd.ntmps23
    go_wp2_with fail
    refine HC.out.mono ?_; rintro e' w2 ⟨rfl, hb2⟩
    have HB2 := Lib.hid (below_2 HB.out hb2)
    clear hb2
    go_wp2_with fail
    go_ret
    exact ⟨ret_int HV.out.symm, HB2.out⟩
  subst h0
  have HV : Hid (R = if y3 = true then 12 else 0) := by show _ = _; rw [HR.out, if_neg (fun z => z rfl)]
  go_enter Tryd.func23, Tryd.ntmps23
  go_wp2_with fail
  refine HC.out.mono ?_; rintro e' w2 ⟨rfl, hb2⟩
  have HB2 := Lib.hid (below_2 HB.out hb2)
  have HF2 := Lib.hid (HF.out _ (HK.out.below hb2))
  have x0 := (HX.out.below hb2).cell 0
  have x1 := (HX.out.below hb2).cell 1
  have x2 := (HX.out.below hb2).cell 2
  simp at x0 x1 x2
  clear hb2 HC
  go_wp2_with fail
  refine HF2.out.mono ?_; rintro e' w3 ⟨rfl, hb3⟩
  have HB3 := Lib.hid (below_2 HB2.out hb3)
  clear hb3 x0 x1 x2
  cases y3 with
  | true =>
    have HV2 : Hid (R = 12) := HV.out
    go_wp2_with fail
    go_ret
    exact ⟨ret_int HV2.out.symm, HB3.out⟩
  | false =>
    have HV2 : Hid (R = 0) := HV.out
    go_wp2_with fail
    go_ret
    exact ⟨ret_int HV2.out.symm, HB3.out⟩
end Go.Proofs.YtgjnddjpinhkgaaDoor.N
namespace Go.Proofs.YtgjnddjpinhkgaaDoor.N
open Go.RowKit
open A (Ex St exV exO exV_mk exO_mk okE okB cB Bx Bodies)
open L (below_2 below_box ret_bool)

theorem any_flat (f : Int → Bool) (l : List Ex) : (l.flatMap ops).any f = l.any fun e => (ops e).any f := by
  induction l with
  | nil => rfl
  | cons e r ih => rw [List.flatMap_cons, List.any_append, List.any_cons, ih]
theorem cleanE_mk (o n : Int) (s : ByteArray) (l : List Ex) : cleanE (.mk o n s l) = (!isN o && l.all cleanE) := by
  unfold cleanE
  rw [ops_mk, List.any_cons, any_flat]
  rw [Bool.not_or]
  congr 1
  induction l with
  | nil => rfl
  | cons e r ih => rw [List.any_cons, List.all_cons, Bool.not_or, ih]
theorem all_drop {α : Type} (f : α → Bool) {l : List α} {k : Nat} (hk : k < l.length) : (l.drop k).all f = (f l[k] && (l.drop (k + 1)).all f) := by
  rw [List.drop_eq_getElem_cons hk, List.all_cons]
def QCl (e : Ex) : Prop := ∀ (a : Option Addr) (c : Nat) (w : World), okE e → A.Kids w a e.args →
  Calls Tryd.prog 53 #[exV e a c] w fun e' w' => e' = .returned (.bool (cleanE e)) ∧ Below w.heap.size w w'
set_option maxHeartbeats 8000000 in
set_option maxRecDepth 100000 in
theorem lclean_any : ∀ e, QCl e := by
  refine A.Ex.ind (P := QCl) ?_
  intro o n s l ih a c w hok hK
  have hK' : A.Kids w a l := hK
  have hb := below_box w (exO (.mk o n s l) a c)
  have hbx := Bx.new w #[.int .i64 o, .int .i64 n, .string s, .slice a l.length c] 52
  have HB := Lib.hid hb
  have HX := Lib.hid hbx
  have HK := Lib.hid (hK'.below hb)
  have hokl : ∀ x ∈ l, okE x := by
    rw [okE] at hok
    exact fun x hx => by
      obtain ⟨j, hj, rfl⟩ := List.getElem_of_mem hx
      exact A.okEs.get hok.2.2.2.2 j hj
  have hll : l.length ≤ 1000000000000000 := by rw [okE] at hok; exact hok.2.2.2.1
  have HIH : Hid (∀ (k : Nat) (h : k < l.length) a2 c2 w', A.Kids w' a2 l[k].args → Calls Tryd.prog 53 #[exV l[k] a2 c2] w' fun e' w'' => e' = .returned (.bool (cleanE l[k])) ∧ Below w'.heap.size w' w'') :=
    fun k h a2 c2 w' h2 => ih k h a2 c2 w' (hokl _ (List.getElem_mem h)) h2
  rw [cleanE_mk]
  simp only [exV_mk]
  simp only [exO_mk] at HX HB HK
  obtain ⟨g, hg⟩ : ∃ g, l.length = g := ⟨_, rfl⟩
  have HL := Lib.hid hg
  rw [hg] at hll HX HB HK ⊢
  have HG : Hid ((l.drop 0).all cleanE = l.all cleanE) := rfl
  obtain ⟨R, hR⟩ : ∃ R, l.all cleanE = R := ⟨_, rfl⟩
  rw [hR] at HG ⊢
  have x0 := HX.out.cell 0
  have x1 := HX.out.cell 1
  have x2 := HX.out.cell 2
  have x3 := HX.out.cell 3
  clear hg hR ih hok hK hK' hb hbx hokl
  have HW : Hid (∀ b, b = (!isN o && R) → ∀ w', Below w.heap.size w w' → (Ending.returned (Value.bool b) = .returned (.bool (!isN o && R))) ∧ Below w.heap.size w w') := fun b h w' hb => ⟨by rw [h], hb⟩
  have HN : Hid (isN o = (decide (o = 25) || (decide (o = 26) || decide (o = 27)))) := rfl
  generalize isN o = q at *
  by_cases h1 : o = 25
  · subst h1
    have HV : Hid (false = (!q && R)) := by show _ = _; rw [HN.out]; rfl
    go_enter Tryd.func53, Tryd.ntmps53
    go_wp2_with fail
    go_ret
    exact HW.out _ HV.out _ HB.out
  have b1 : (o == 25) = false := beq_eq_false_iff_ne.2 h1
  by_cases h2 : o = 26
  · subst h2
    have HV : Hid (false = (!q && R)) := by show _ = _; rw [HN.out]; rfl
    clear h1 b1
    go_enter Tryd.func53, Tryd.ntmps53
    go_wp2_with fail
    go_ret
    exact HW.out _ HV.out _ HB.out
  have b2 : (o == 26) = false := beq_eq_false_iff_ne.2 h2
  by_cases h3 : o = 27
  · subst h3
    have HV : Hid (false = (!q && R)) := by show _ = _; rw [HN.out]; rfl
    clear h1 h2 b1 b2
    go_enter Tryd.func53, Tryd.ntmps53
    go_wp2_with fail
    go_ret
    exact HW.out _ HV.out _ HB.out
  have b3 : (o == 27) = false := beq_eq_false_iff_ne.2 h3
  have hq : q = false := by rw [HN.out, decide_eq_false h1, decide_eq_false h2, decide_eq_false h3]; rfl
  subst hq
  clear h1 h2 h3 HN
  go_enter Tryd.func53, Tryd.ntmps53
  go_wp2_with fail
  go_loopw [3] (fun s3 wr => ∃ k : Nat, k ≤ g ∧ s3 = .int .i64 k ∧ Hid ((l.drop k).all cleanE = R) ∧ Hid (Below (w.alloc (.cells #[.int .i64 o, .int .i64 n, .string s, .slice a g c] 52)).heap.size (w.alloc (.cells #[.int .i64 o, .int .i64 n, .string s, .slice a g c] 52)) wr)) (fun s3 _ => g - (intOf s3).toNat)
  case atStart => exact ⟨0, Nat.zero_le _, rfl, HG, Below.refl _ _⟩
  case round =>
    obtain ⟨k, hk, rfl, HG2, HBr⟩ := hrel
    have z3 := (HX.out.below HBr.out).cell 3
    have HBB := Lib.hid (below_2 HB.out HBr.out)
    clear x0 x1 x2 x3
    by_cases hlt : k < g
    · have hlx : k < l.length := by rw [HL.out]; exact hlt
      obtain ⟨b2, i2, rfl, hat⟩ := (HK.out.below HBr.out).open hlx
      obtain ⟨d0, d1, d2, a2, cc, d3, hk2⟩ := hat.open
      have HCC := Lib.hid (HIH.out k hlx a2 cc _ hk2)
      have hG := HG2.out
      rw [all_drop cleanE hlx] at hG
      clear hat hk2
      unfold exV at HCC
      generalize cleanE l[k] = y at HCC hG
      generalize l[k].args.length = m2 at d3 HCC
      generalize l[k].op = o2 at d0 HCC
      generalize l[k].n = n2 at d1 HCC
      generalize l[k].s = s2 at d2 HCC
      cases y with
      | false =>
        have HV : Hid (false = (!false && R)) := hG
        clear hG
        go_wp2_with fail
        refine HCC.out.mono ?_; rintro e w2 ⟨rfl, hb2⟩
        have HB2 := Lib.hid (below_2 HBB.out hb2)
        clear hb2 z3
        go_wp2_with fail
        go_ret
        exact HW.out _ HV.out _ HB2.out
      | true =>
        have HG3 : Hid ((l.drop (k + 1)).all cleanE = R) := hG
        clear hG
        go_wp2_with fail
        refine HCC.out.mono ?_; rintro e w2 ⟨rfl, hb2⟩
        have HB2 := Lib.hid (below_2 HBr.out hb2)
        clear hb2 z3
        go_wp2_with fail
        go_roundw
        case rel => exact ⟨k + 1, by omega, by go_num, HG3, HB2.out⟩
        case measure => simp [intOf]; omega
    · have hG := HG2.out
      rw [List.drop_of_length_le (by have := HL.out; omega)] at hG
      have HV : Hid (true = (!false && R)) := hG
      clear hG
      go_wp2_with fail
      go_ret
      exact HW.out _ HV.out _ HBB.out
theorem clB_drop {l : List St} {k : Nat} (hk : k < l.length) : clB (l.drop k) = (cleanE (l[k]).a && (cleanE (l[k]).b && (clB (l[k]).body && clB (l[k]).els)) && clB (l.drop (k + 1))) := by
  rw [List.drop_eq_getElem_cons hk, clB]
  obtain ⟨o, nm, mx, a, b, bd, el⟩ := l[k]
  rw [clS]; rfl
def QCB (l : List St) : Prop := ∀ (a : Option Addr) (c : Nat) (w : World), okB l → l.length ≤ 1000000000000000 → Bodies w a l →
  Calls Tryd.prog 26 #[.slice a l.length c] w fun e' w' => e' = .returned (.bool (clB l)) ∧ Below w.heap.size w w'
set_option maxHeartbeats 16000000 in
set_option maxRecDepth 100000 in
theorem cleanAll_step {l : List St} (hq : ∀ j (h : j < l.length), QCB (l[j]).body ∧ QCB (l[j]).els) : QCB l := by
  intro a c w hok hl hK
  have HST := Lib.hid hq
  have HOK := Lib.hid hok
  have HK := Lib.hid hK
  obtain ⟨R, hR⟩ : ∃ R, clB l = R := ⟨_, rfl⟩
  rw [hR]
  have HR : Hid (clB (l.drop 0) = R) := hR
  obtain ⟨m, hm⟩ : ∃ m, l.length = m := ⟨_, rfl⟩
  have HL := Lib.hid hm
  rw [hm] at hl ⊢
  clear hm hR hK hq hok
  go_enter Tryd.func26, Tryd.ntmps26
  go_wp2_with fail
  go_loopw [3] (fun s3 wr => ∃ k : Nat, k ≤ m ∧ s3 = .int .i64 k ∧ Hid (clB (l.drop k) = R) ∧ Hid (Below w.heap.size w wr)) (fun s3 _ => m - (intOf s3).toNat)
  case atStart => exact ⟨0, Nat.zero_le _, rfl, HR, Below.refl _ _⟩
  case round =>
    obtain ⟨k, hk, rfl, HX, HBr⟩ := hrel
    by_cases hlt : k < m
    · have hlx : k < l.length := by rw [HL.out]; exact hlt
      obtain ⟨b3, i3, rfl, hat⟩ := HK.out.open hlx
      obtain ⟨a1, c1, a2, c2, a3, c3, a4, c4, hcc0, hkk⟩ := hat.open
      have hoks := A.okS_open (HOK.out.get k hlx)
      have hx := HX.out
      rw [clB_drop hlx] at hx
      obtain ⟨hqb, hqe⟩ := HST.out k hlx
      have KA : Hid (∀ wk, Below w.heap.size w wk → Calls Tryd.prog 53 #[exV (l[k]).a a1 c1] wk fun e' w' => e' = .returned (.bool (cleanE (l[k]).a)) ∧ Below wk.heap.size wk w') := fun wk hb => lclean_any _ a1 c1 wk hoks.a (hkk.a.below hb)
      have KB : Hid (∀ wk, Below w.heap.size w wk → Calls Tryd.prog 53 #[exV (l[k]).b a2 c2] wk fun e' w' => e' = .returned (.bool (cleanE (l[k]).b)) ∧ Below wk.heap.size wk w') := fun wk hb => lclean_any _ a2 c2 wk hoks.b (hkk.b.below hb)
      have SB : Hid (∀ wk, Below w.heap.size w wk → Calls Tryd.prog 26 #[.slice a3 (l[k]).body.length c3] wk fun e' w' => e' = .returned (.bool (clB (l[k]).body)) ∧ Below wk.heap.size wk w') := fun wk hb => hqb a3 c3 wk hoks.body hoks.bodyLen (hkk.body.below hb)
      have SE : Hid (∀ wk, Below w.heap.size w wk → Calls Tryd.prog 26 #[.slice a4 (l[k]).els.length c4] wk fun e' w' => e' = .returned (.bool (clB (l[k]).els)) ∧ Below wk.heap.size wk w') := fun wk hb => hqe a4 c4 wk hoks.els hoks.elsLen (hkk.els.below hb)
      have HCC := Lib.hid hcc0
      clear hat hcc0 hkk hoks hqb hqe HX
      unfold exV at KA KB
      generalize cleanE (l[k]).a = ra at *
      generalize cleanE (l[k]).b = rb at *
      generalize clB (l[k]).body = rc at *
      generalize clB (l[k]).els = rd at *
      have hc0 := HCC.out.below HBr.out
      have f0_3 := hc0.k3
      have f0_4 := hc0.k4
      have f0_5 := hc0.k5
      have f0_6 := hc0.k6
      have f0_7 := hc0.k7
      have f0_8 := hc0.k8
      have f0_9 := hc0.k9
      have f0_10 := hc0.k10
      have f0_11 := hc0.k11
      have f0_12 := hc0.k12
      clear hc0
      cases ra with
      | false =>
        have HV : Hid (false = R) := by show _ = _; simpa using hx
        clear hx
        go_wp2_with fail
        refine (KA.out _ HBr.out).mono ?_; rintro e' w2 ⟨rfl, hb2⟩
        have HB2 := Lib.hid (below_2 HBr.out hb2)
        clear hb2
        go_wp2_with fail
        go_ret
        exact ⟨ret_bool HV.out, HB2.out⟩
      | true =>
        go_wp2_with fail
        refine (KA.out _ HBr.out).mono ?_; rintro e' w2 ⟨rfl, hb2⟩
        have HB2 := Lib.hid (below_2 HBr.out hb2)
        clear hb2 f0_3 f0_4 f0_5 f0_6 f0_7 f0_8 f0_9 f0_10 f0_11 f0_12
        have hc2 := HCC.out.below HB2.out
        have f2_3 := hc2.k3
        have f2_4 := hc2.k4
        have f2_5 := hc2.k5
        have f2_6 := hc2.k6
        have f2_7 := hc2.k7
        have f2_8 := hc2.k8
        have f2_9 := hc2.k9
        have f2_10 := hc2.k10
        have f2_11 := hc2.k11
        have f2_12 := hc2.k12
        clear hc2
        cases rb with
        | false =>
          have HV : Hid (false = R) := by show _ = _; simpa using hx
          clear hx
          go_wp2_with fail
          refine (KB.out _ HB2.out).mono ?_; rintro e' w3 ⟨rfl, hb3⟩
          have HB3 := Lib.hid (below_2 HB2.out hb3)
          clear hb3
          go_wp2_with fail
          go_ret
          exact ⟨ret_bool HV.out, HB3.out⟩
        | true =>
          go_wp2_with fail
          refine (KB.out _ HB2.out).mono ?_; rintro e' w3 ⟨rfl, hb3⟩
          have HB3 := Lib.hid (below_2 HB2.out hb3)
          clear hb3 f2_3 f2_4 f2_5 f2_6 f2_7 f2_8 f2_9 f2_10 f2_11 f2_12
          have hc3 := HCC.out.below HB3.out
          have f3_3 := hc3.k3
          have f3_4 := hc3.k4
          have f3_5 := hc3.k5
          have f3_6 := hc3.k6
          have f3_7 := hc3.k7
          have f3_8 := hc3.k8
          have f3_9 := hc3.k9
          have f3_10 := hc3.k10
          have f3_11 := hc3.k11
          have f3_12 := hc3.k12
          clear hc3
          cases rc with
          | false =>
            have HV : Hid (false = R) := by show _ = _; simpa using hx
            clear hx
            go_wp2_with fail
            refine (SB.out _ HB3.out).mono ?_; rintro e' w4 ⟨rfl, hb4⟩
            have HB4 := Lib.hid (below_2 HB3.out hb4)
            clear hb4
            go_wp2_with fail
            go_ret
            exact ⟨ret_bool HV.out, HB4.out⟩
          | true =>
            go_wp2_with fail
            refine (SB.out _ HB3.out).mono ?_; rintro e' w4 ⟨rfl, hb4⟩
            have HB4 := Lib.hid (below_2 HB3.out hb4)
            clear hb4 f3_3 f3_4 f3_5 f3_6 f3_7 f3_8 f3_9 f3_10 f3_11 f3_12
            have hc4 := HCC.out.below HB4.out
            have f4_3 := hc4.k3
            have f4_4 := hc4.k4
            have f4_5 := hc4.k5
            have f4_6 := hc4.k6
            have f4_7 := hc4.k7
            have f4_8 := hc4.k8
            have f4_9 := hc4.k9
            have f4_10 := hc4.k10
            have f4_11 := hc4.k11
            have f4_12 := hc4.k12
            clear hc4
            cases rd with
            | false =>
              have HV : Hid (false = R) := by show _ = _; simpa using hx
              clear hx
              go_wp2_with fail
              refine (SE.out _ HB4.out).mono ?_; rintro e' w5 ⟨rfl, hb5⟩
              have HB5 := Lib.hid (below_2 HB4.out hb5)
              clear hb5
              go_wp2_with fail
              go_ret
              exact ⟨ret_bool HV.out, HB5.out⟩
            | true =>
              have HX2 : Hid (clB (l.drop (k + 1)) = R) := by show _ = _; simpa using hx
              clear hx
              go_wp2_with fail
              refine (SE.out _ HB4.out).mono ?_; rintro e' w5 ⟨rfl, hb5⟩
              have HB5 := Lib.hid (below_2 HB4.out hb5)
              clear hb5
              go_wp2_with fail
              go_roundw
              case rel => exact ⟨k + 1, by omega, by go_num, HX2, HB5.out⟩
              case measure => simp [intOf]; omega
    · have hx := HX.out
      rw [List.drop_of_length_le (by have := HL.out; omega), clB] at hx
      have HV : Hid (true = R) := hx
      clear hx
      go_wp2_with fail
      go_ret
      exact ⟨ret_bool HV.out, HBr.out⟩
theorem lcleanAll_any : ∀ l, QCB l := A.body_ind fun _ h => cleanAll_step h
end Go.Proofs.YtgjnddjpinhkgaaDoor.N
namespace Go.Proofs.YtgjnddjpinhkgaaDoor.N
open Go.RowKit
open A (Ex St Pr exV exO exV_mk okE okEs okB okS cE cB Bx OkP PrIn prV exprs ExAt ExsAt StAt StsAt Bodies)
open L (below_2 below_box ret_bool)

def lf (o n : Int) (s : ByteArray) : Ex := .mk o n s []
def noE : Ex := lf 0 0 ⟨#[]⟩
def sumE : Ex := .mk 4 0 ⟨#[]⟩ [lf 1 1 ⟨#[]⟩, lf 1 2 ⟨#[]⟩]
def getE : Ex := .mk 22 0 ⟨#[]⟩ [lf 2 0 ⟨#[97]⟩]
def nowE : Ex := lf 25 0 ⟨#[]⟩
def rndE : Ex := .mk 4 0 ⟨#[]⟩ [lf 1 1 ⟨#[]⟩, lf 26 0 ⟨#[]⟩]
def exP : Pr := ⟨⟨#[112]⟩, [], [.mk 1 ⟨#[120]⟩ 0 rndE noE [] [], .mk 7 ⟨#[]⟩ 0 (lf 3 0 ⟨#[120]⟩) noE [] []]⟩
theorem first_ex : firstN exP = (26, 2, true) := by kernel_rfl
theorem pure_sum : pureE sumE = true := by kernel_rfl
theorem pure_get : pureE getE = false := by kernel_rfl
theorem pure_now : pureE nowE = false := by kernel_rfl
theorem reads_now : readsE nowE = false := by kernel_rfl
theorem reads_get : readsE getE = true := by kernel_rfl
theorem okE_lf (o n : Int) (s : ByteArray) (ho : -9223372036854775808 ≤ o ∧ o ≤ 9223372036854775807) (hn : -9223372036854775808 ≤ n ∧ n ≤ 9223372036854775807) (hs : s.size ≤ 1000000000000000) : okE (lf o n s) := by
  unfold lf
  rw [okE, okEs]
  exact ⟨ho, hn, hs, Nat.zero_le _, trivial⟩
theorem ok_sum : okE sumE := by
  unfold sumE
  rw [okE, okEs, okEs, okEs]
  exact ⟨by decide, by decide, by decide, by decide, okE_lf _ _ _ (by decide) (by decide) (by decide), okE_lf _ _ _ (by decide) (by decide) (by decide), trivial⟩
theorem ok_rnd : okE rndE := by
  unfold rndE
  rw [okE, okEs, okEs, okEs]
  exact ⟨by decide, by decide, by decide, by decide, okE_lf _ _ _ (by decide) (by decide) (by decide), okE_lf _ _ _ (by decide) (by decide) (by decide), trivial⟩
theorem ok_get : okE getE := by
  unfold getE
  rw [okE, okEs, okEs]
  exact ⟨by decide, by decide, by decide, by decide, okE_lf _ _ _ (by decide) (by decide) (by decide), trivial⟩
theorem ok_now : okE nowE := okE_lf _ _ _ (by decide) (by decide) (by decide)
theorem okB_no : okB [] := by rw [okB]; trivial
theorem ok_exP : OkP exP := by
  refine ⟨by decide, by decide, fun j h => absurd h (Nat.not_lt_zero _), by decide, ?_⟩
  show okB [_, _]
  rw [okB, okB, okB, okS, okS]
  exact ⟨⟨by decide, by decide, by decide, ok_rnd, okE_lf _ _ _ (by decide) (by decide) (by decide), by decide, okB_no, by decide, okB_no⟩, ⟨by decide, by decide, by decide, okE_lf _ _ _ (by decide) (by decide) (by decide), okE_lf _ _ _ (by decide) (by decide) (by decide), by decide, okB_no, by decide, okB_no⟩, trivial⟩
theorem sz_exP : cB exP.body ≤ 900000 := by decide +kernel
theorem at_lf {F : World} {g i : Nat} {o n : Int} {s : ByteArray} (h0 : F.cell? ⟨g, i, none⟩ = some (.int .i64 o)) (h1 : F.cell? ⟨g, i + 1, none⟩ = some (.int .i64 n)) (h2 : F.cell? ⟨g, i + 2, none⟩ = some (.string s)) (h3 : F.cell? ⟨g, i + 3, none⟩ = some (.slice none 0 0)) : ExAt F (lf o n s) g i :=
  ⟨h0, h1, h2, none, 0, h3, Or.inl rfl⟩
theorem kids_l1 {F : World} {g : Nat} {o n : Int} {s : ByteArray} (h : Bx F g #[.int .i64 o, .int .i64 n, .string s, .slice none 0 0] 52) : A.Kids F (some ⟨g, 0, none⟩) [lf o n s] :=
  Or.inr ⟨g, 0, rfl, by rw [ExsAt, ExsAt]; exact ⟨at_lf (h.cell 0) (h.cell 1) (h.cell 2) (h.cell 3), trivial⟩⟩
theorem kids_l2 {F : World} {g : Nat} {o n o' n' : Int} {s s' : ByteArray} (h : Bx F g #[.int .i64 o, .int .i64 n, .string s, .slice none 0 0, .int .i64 o', .int .i64 n', .string s', .slice none 0 0] 52) : A.Kids F (some ⟨g, 0, none⟩) [lf o n s, lf o' n' s'] :=
  Or.inr ⟨g, 0, rfl, by rw [ExsAt, ExsAt, ExsAt]; exact ⟨at_lf (h.cell 0) (h.cell 1) (h.cell 2) (h.cell 3), at_lf (h.cell 4) (h.cell 5) (h.cell 6) (h.cell 7), trivial⟩⟩
/-- what the examples' memory holds -/
structure EB (n : Nat) (F : World) : Prop where
  c0 : Bx F (n) #[.int .i64 1, .int .i64 1, .string ⟨#[]⟩, .slice none 0 0] 52
  c1 : Bx F (n + 1) #[.int .i64 1, .int .i64 1, .string ⟨#[]⟩, .slice none 0 0, .int .i64 1, .int .i64 2, .string ⟨#[]⟩, .slice none 0 0] 52
  c2 : Bx F (n + 1 + 1) #[.int .i64 4, .int .i64 0, .string ⟨#[]⟩, .slice (some ⟨n + 1, 0, none⟩) 2 2] 52
  c3 : Bx F (n + 1 + 1 + 1) #[.int .i64 2, .int .i64 0, .string ⟨#[97]⟩, .slice none 0 0] 52
  c4 : Bx F (n + 1 + 1 + 1 + 1) #[.int .i64 22, .int .i64 0, .string ⟨#[]⟩, .slice (some ⟨n + 1 + 1 + 1, 0, none⟩) 1 1] 52
  c5 : Bx F (n + 1 + 1 + 1 + 1 + 1) #[.int .i64 25, .int .i64 0, .string ⟨#[]⟩, .slice none 0 0] 52
  c6 : Bx F (n + 1 + 1 + 1 + 1 + 1 + 1) #[.int .i64 1, .int .i64 1, .string ⟨#[]⟩, .slice none 0 0, .int .i64 26, .int .i64 0, .string ⟨#[]⟩, .slice none 0 0] 52
  c7 : Bx F (n + 1 + 1 + 1 + 1 + 1 + 1 + 1) #[.int .i64 1, .string ⟨#[120]⟩, .int .i64 0, .int .i64 4, .int .i64 0, .string ⟨#[]⟩, .slice (some ⟨n + 1 + 1 + 1 + 1 + 1 + 1, 0, none⟩) 2 2, .int .i64 0, .int .i64 0, .string ⟨#[]⟩, .slice none 0 0, .slice none 0 0, .slice none 0 0, .int .i64 7, .string ⟨#[]⟩, .int .i64 0, .int .i64 3, .int .i64 0, .string ⟨#[120]⟩, .slice none 0 0, .int .i64 0, .int .i64 0, .string ⟨#[]⟩, .slice none 0 0, .slice none 0 0, .slice none 0 0] 56
  c8 : Bx F (n + 1 + 1 + 1 + 1 + 1 + 1 + 1 + 1) #[.string ⟨#[112]⟩, .slice none 0 0, .slice (some ⟨n + 1 + 1 + 1 + 1 + 1 + 1 + 1, 0, none⟩) 2 2] 25
theorem EB.below {n : Nat} {F F' : World} (H : EB n F) (hb : Below F.heap.size F F') : EB n F' :=
  ⟨H.c0.below hb, H.c1.below hb, H.c2.below hb, H.c3.below hb, H.c4.below hb, H.c5.below hb, H.c6.below hb, H.c7.below hb, H.c8.below hb⟩
theorem in_ex {n : Nat} {F : World} (H : EB n F) : PrIn F exP none (some ⟨n + 1 + 1 + 1 + 1 + 1 + 1 + 1, 0, none⟩) := by
  refine ⟨Or.inl rfl, Or.inr ⟨_, 0, rfl, ?_⟩⟩
  show StsAt F [_, _] _ 0
  rw [StsAt, StsAt, StsAt, StAt, StAt]
  have x := H.c7
  refine ⟨⟨x.cell 0, x.cell 1, x.cell 2, ?_, at_lf (x.cell 7) (x.cell 8) (x.cell 9) (x.cell 10), ⟨_, _, x.cell 11, Or.inl rfl⟩, ⟨_, _, x.cell 12, Or.inl rfl⟩⟩, ⟨x.cell 13, x.cell 14, x.cell 15, at_lf (x.cell 16) (x.cell 17) (x.cell 18) (x.cell 19), at_lf (x.cell 20) (x.cell 21) (x.cell 22) (x.cell 23), ⟨_, _, x.cell 24, Or.inl rfl⟩, ⟨_, _, x.cell 25, Or.inl rfl⟩⟩, trivial⟩
  exact ⟨x.cell 3, x.cell 4, x.cell 5, _, _, x.cell 6, kids_l2 H.c6⟩
theorem call_first {n : Nat} {F : World} (H : EB n F) : Calls Tryd.prog 25 #[.agg #[.string ⟨#[112]⟩, .slice none 0 0, .slice (some ⟨n + 1 + 1 + 1 + 1 + 1 + 1 + 1, 0, none⟩) 2 2]] F fun e' w' => e' = .returned (.tuple #[.int .i64 26, .int .i64 2, .bool true]) ∧ Below F.heap.size F w' := by
  have := oFirst_any exP none (some ⟨n + 1 + 1 + 1 + 1 + 1 + 1 + 1, 0, none⟩) 0 2 (fun w' h => A.ovalidate_any exP none (some ⟨n + 1 + 1 + 1 + 1 + 1 + 1 + 1, 0, none⟩) 0 2 ok_exP sz_exP (by decide) w' h) (fun _ w' h => A.oexprs_any exP none (some ⟨n + 1 + 1 + 1 + 1 + 1 + 1 + 1, 0, none⟩) 0 2 ok_exP sz_exP w' h) (fun _ e he => (A.exprs_ve ok_exP.body e he).1) F (in_ex H)
  rw [first_ex] at this
  exact this
theorem call_ps {n : Nat} {F : World} (H : EB n F) : Calls Tryd.prog 48 #[.agg #[.int .i64 4, .int .i64 0, .string ⟨#[]⟩, .slice (some ⟨n + 1, 0, none⟩) 2 2]] F fun e' w' => e' = .returned (.bool true) ∧ Below F.heap.size F w' := by
  have := oPure_any sumE (some ⟨n + 1, 0, none⟩) 2 ok_sum F (kids_l2 H.c1)
  rw [pure_sum] at this
  exact this
theorem call_pg {n : Nat} {F : World} (H : EB n F) : Calls Tryd.prog 48 #[.agg #[.int .i64 22, .int .i64 0, .string ⟨#[]⟩, .slice (some ⟨n + 1 + 1 + 1, 0, none⟩) 1 1]] F fun e' w' => e' = .returned (.bool false) ∧ Below F.heap.size F w' := by
  have := oPure_any getE (some ⟨n + 1 + 1 + 1, 0, none⟩) 1 ok_get F (kids_l1 H.c3)
  rw [pure_get] at this
  exact this
theorem call_pn {n : Nat} {F : World} (_ : EB n F) : Calls Tryd.prog 48 #[.agg #[.int .i64 25, .int .i64 0, .string ⟨#[]⟩, .slice none 0 0]] F fun e' w' => e' = .returned (.bool false) ∧ Below F.heap.size F w' := by
  have := oPure_any nowE none 0 ok_now F (Or.inl rfl)
  rw [pure_now] at this
  exact this
theorem call_rn {n : Nat} {F : World} (_ : EB n F) : Calls Tryd.prog 49 #[.agg #[.int .i64 25, .int .i64 0, .string ⟨#[]⟩, .slice none 0 0]] F fun e' w' => e' = .returned (.bool false) ∧ Below F.heap.size F w' := by
  have := oReads_any nowE none 0 ok_now F (Or.inl rfl)
  rw [reads_now] at this
  exact this
theorem call_rg {n : Nat} {F : World} (H : EB n F) : Calls Tryd.prog 49 #[.agg #[.int .i64 22, .int .i64 0, .string ⟨#[]⟩, .slice (some ⟨n + 1 + 1 + 1, 0, none⟩) 1 1]] F fun e' w' => e' = .returned (.bool true) ∧ Below F.heap.size F w' := by
  have := oReads_any getE (some ⟨n + 1 + 1 + 1, 0, none⟩) 1 ok_get F (kids_l1 H.c3)
  rw [reads_get] at this
  exact this
theorem ex_chain (w : World) : EB w.heap.size (((((((((w.alloc (.cells #[.int .i64 1, .int .i64 1, .string ⟨#[]⟩, .slice none 0 0] 52)).alloc (.cells #[.int .i64 1, .int .i64 1, .string ⟨#[]⟩, .slice none 0 0, .int .i64 1, .int .i64 2, .string ⟨#[]⟩, .slice none 0 0] 52)).alloc (.cells #[.int .i64 4, .int .i64 0, .string ⟨#[]⟩, .slice (some ⟨w.heap.size + 1, 0, none⟩) 2 2] 52)).alloc (.cells #[.int .i64 2, .int .i64 0, .string ⟨#[97]⟩, .slice none 0 0] 52)).alloc (.cells #[.int .i64 22, .int .i64 0, .string ⟨#[]⟩, .slice (some ⟨w.heap.size + 1 + 1 + 1, 0, none⟩) 1 1] 52)).alloc (.cells #[.int .i64 25, .int .i64 0, .string ⟨#[]⟩, .slice none 0 0] 52)).alloc (.cells #[.int .i64 1, .int .i64 1, .string ⟨#[]⟩, .slice none 0 0, .int .i64 26, .int .i64 0, .string ⟨#[]⟩, .slice none 0 0] 52)).alloc (.cells #[.int .i64 1, .string ⟨#[120]⟩, .int .i64 0, .int .i64 4, .int .i64 0, .string ⟨#[]⟩, .slice (some ⟨w.heap.size + 1 + 1 + 1 + 1 + 1 + 1, 0, none⟩) 2 2, .int .i64 0, .int .i64 0, .string ⟨#[]⟩, .slice none 0 0, .slice none 0 0, .slice none 0 0, .int .i64 7, .string ⟨#[]⟩, .int .i64 0, .int .i64 3, .int .i64 0, .string ⟨#[120]⟩, .slice none 0 0, .int .i64 0, .int .i64 0, .string ⟨#[]⟩, .slice none 0 0, .slice none 0 0, .slice none 0 0] 56)).alloc (.cells #[.string ⟨#[112]⟩, .slice none 0 0, .slice (some ⟨w.heap.size + 1 + 1 + 1 + 1 + 1 + 1 + 1, 0, none⟩) 2 2] 25)) ∧ Below w.heap.size w (((((((((w.alloc (.cells #[.int .i64 1, .int .i64 1, .string ⟨#[]⟩, .slice none 0 0] 52)).alloc (.cells #[.int .i64 1, .int .i64 1, .string ⟨#[]⟩, .slice none 0 0, .int .i64 1, .int .i64 2, .string ⟨#[]⟩, .slice none 0 0] 52)).alloc (.cells #[.int .i64 4, .int .i64 0, .string ⟨#[]⟩, .slice (some ⟨w.heap.size + 1, 0, none⟩) 2 2] 52)).alloc (.cells #[.int .i64 2, .int .i64 0, .string ⟨#[97]⟩, .slice none 0 0] 52)).alloc (.cells #[.int .i64 22, .int .i64 0, .string ⟨#[]⟩, .slice (some ⟨w.heap.size + 1 + 1 + 1, 0, none⟩) 1 1] 52)).alloc (.cells #[.int .i64 25, .int .i64 0, .string ⟨#[]⟩, .slice none 0 0] 52)).alloc (.cells #[.int .i64 1, .int .i64 1, .string ⟨#[]⟩, .slice none 0 0, .int .i64 26, .int .i64 0, .string ⟨#[]⟩, .slice none 0 0] 52)).alloc (.cells #[.int .i64 1, .string ⟨#[120]⟩, .int .i64 0, .int .i64 4, .int .i64 0, .string ⟨#[]⟩, .slice (some ⟨w.heap.size + 1 + 1 + 1 + 1 + 1 + 1, 0, none⟩) 2 2, .int .i64 0, .int .i64 0, .string ⟨#[]⟩, .slice none 0 0, .slice none 0 0, .slice none 0 0, .int .i64 7, .string ⟨#[]⟩, .int .i64 0, .int .i64 3, .int .i64 0, .string ⟨#[120]⟩, .slice none 0 0, .int .i64 0, .int .i64 0, .string ⟨#[]⟩, .slice none 0 0, .slice none 0 0, .slice none 0 0] 56)).alloc (.cells #[.string ⟨#[112]⟩, .slice none 0 0, .slice (some ⟨w.heap.size + 1 + 1 + 1 + 1 + 1 + 1 + 1, 0, none⟩) 2 2] 25)) := by
  obtain ⟨z1, e1⟩ : ∃ z, z = w.alloc (.cells #[.int .i64 1, .int .i64 1, .string ⟨#[]⟩, .slice none 0 0] 52) := ⟨_, rfl⟩
  have b1 : Below w.heap.size w z1 := by rw [e1]; exact below_box _ _
  have x1 := Bx.new w #[.int .i64 1, .int .i64 1, .string ⟨#[]⟩, .slice none 0 0] 52
  rw [← e1] at x1
  have s1 : z1.heap.size = w.heap.size + 1 := by rw [e1]; simp
  rw [← e1]
  obtain ⟨z2, e2⟩ : ∃ z, z = z1.alloc (.cells #[.int .i64 1, .int .i64 1, .string ⟨#[]⟩, .slice none 0 0, .int .i64 1, .int .i64 2, .string ⟨#[]⟩, .slice none 0 0] 52) := ⟨_, rfl⟩
  have b2 : Below z1.heap.size z1 z2 := by rw [e2]; exact below_box _ _
  have x2 := Bx.new z1 #[.int .i64 1, .int .i64 1, .string ⟨#[]⟩, .slice none 0 0, .int .i64 1, .int .i64 2, .string ⟨#[]⟩, .slice none 0 0] 52
  rw [← e2] at x2
  rw [s1] at x2
  have s2 : z2.heap.size = w.heap.size + 1 + 1 := by rw [e2]; simp [s1]
  rw [← e2]
  obtain ⟨z3, e3⟩ : ∃ z, z = z2.alloc (.cells #[.int .i64 4, .int .i64 0, .string ⟨#[]⟩, .slice (some ⟨w.heap.size + 1, 0, none⟩) 2 2] 52) := ⟨_, rfl⟩
  have b3 : Below z2.heap.size z2 z3 := by rw [e3]; exact below_box _ _
  have x3 := Bx.new z2 #[.int .i64 4, .int .i64 0, .string ⟨#[]⟩, .slice (some ⟨w.heap.size + 1, 0, none⟩) 2 2] 52
  rw [← e3] at x3
  rw [s2] at x3
  have s3 : z3.heap.size = w.heap.size + 1 + 1 + 1 := by rw [e3]; simp [s2]
  rw [← e3]
  obtain ⟨z4, e4⟩ : ∃ z, z = z3.alloc (.cells #[.int .i64 2, .int .i64 0, .string ⟨#[97]⟩, .slice none 0 0] 52) := ⟨_, rfl⟩
  have b4 : Below z3.heap.size z3 z4 := by rw [e4]; exact below_box _ _
  have x4 := Bx.new z3 #[.int .i64 2, .int .i64 0, .string ⟨#[97]⟩, .slice none 0 0] 52
  rw [← e4] at x4
  rw [s3] at x4
  have s4 : z4.heap.size = w.heap.size + 1 + 1 + 1 + 1 := by rw [e4]; simp [s3]
  rw [← e4]
  obtain ⟨z5, e5⟩ : ∃ z, z = z4.alloc (.cells #[.int .i64 22, .int .i64 0, .string ⟨#[]⟩, .slice (some ⟨w.heap.size + 1 + 1 + 1, 0, none⟩) 1 1] 52) := ⟨_, rfl⟩
  have b5 : Below z4.heap.size z4 z5 := by rw [e5]; exact below_box _ _
  have x5 := Bx.new z4 #[.int .i64 22, .int .i64 0, .string ⟨#[]⟩, .slice (some ⟨w.heap.size + 1 + 1 + 1, 0, none⟩) 1 1] 52
  rw [← e5] at x5
  rw [s4] at x5
  have s5 : z5.heap.size = w.heap.size + 1 + 1 + 1 + 1 + 1 := by rw [e5]; simp [s4]
  rw [← e5]
  obtain ⟨z6, e6⟩ : ∃ z, z = z5.alloc (.cells #[.int .i64 25, .int .i64 0, .string ⟨#[]⟩, .slice none 0 0] 52) := ⟨_, rfl⟩
  have b6 : Below z5.heap.size z5 z6 := by rw [e6]; exact below_box _ _
  have x6 := Bx.new z5 #[.int .i64 25, .int .i64 0, .string ⟨#[]⟩, .slice none 0 0] 52
  rw [← e6] at x6
  rw [s5] at x6
  have s6 : z6.heap.size = w.heap.size + 1 + 1 + 1 + 1 + 1 + 1 := by rw [e6]; simp [s5]
  rw [← e6]
  obtain ⟨z7, e7⟩ : ∃ z, z = z6.alloc (.cells #[.int .i64 1, .int .i64 1, .string ⟨#[]⟩, .slice none 0 0, .int .i64 26, .int .i64 0, .string ⟨#[]⟩, .slice none 0 0] 52) := ⟨_, rfl⟩
  have b7 : Below z6.heap.size z6 z7 := by rw [e7]; exact below_box _ _
  have x7 := Bx.new z6 #[.int .i64 1, .int .i64 1, .string ⟨#[]⟩, .slice none 0 0, .int .i64 26, .int .i64 0, .string ⟨#[]⟩, .slice none 0 0] 52
  rw [← e7] at x7
  rw [s6] at x7
  have s7 : z7.heap.size = w.heap.size + 1 + 1 + 1 + 1 + 1 + 1 + 1 := by rw [e7]; simp [s6]
  rw [← e7]
  obtain ⟨z8, e8⟩ : ∃ z, z = z7.alloc (.cells #[.int .i64 1, .string ⟨#[120]⟩, .int .i64 0, .int .i64 4, .int .i64 0, .string ⟨#[]⟩, .slice (some ⟨w.heap.size + 1 + 1 + 1 + 1 + 1 + 1, 0, none⟩) 2 2, .int .i64 0, .int .i64 0, .string ⟨#[]⟩, .slice none 0 0, .slice none 0 0, .slice none 0 0, .int .i64 7, .string ⟨#[]⟩, .int .i64 0, .int .i64 3, .int .i64 0, .string ⟨#[120]⟩, .slice none 0 0, .int .i64 0, .int .i64 0, .string ⟨#[]⟩, .slice none 0 0, .slice none 0 0, .slice none 0 0] 56) := ⟨_, rfl⟩
  have b8 : Below z7.heap.size z7 z8 := by rw [e8]; exact below_box _ _
  have x8 := Bx.new z7 #[.int .i64 1, .string ⟨#[120]⟩, .int .i64 0, .int .i64 4, .int .i64 0, .string ⟨#[]⟩, .slice (some ⟨w.heap.size + 1 + 1 + 1 + 1 + 1 + 1, 0, none⟩) 2 2, .int .i64 0, .int .i64 0, .string ⟨#[]⟩, .slice none 0 0, .slice none 0 0, .slice none 0 0, .int .i64 7, .string ⟨#[]⟩, .int .i64 0, .int .i64 3, .int .i64 0, .string ⟨#[120]⟩, .slice none 0 0, .int .i64 0, .int .i64 0, .string ⟨#[]⟩, .slice none 0 0, .slice none 0 0, .slice none 0 0] 56
  rw [← e8] at x8
  rw [s7] at x8
  have s8 : z8.heap.size = w.heap.size + 1 + 1 + 1 + 1 + 1 + 1 + 1 + 1 := by rw [e8]; simp [s7]
  rw [← e8]
  obtain ⟨z9, e9⟩ : ∃ z, z = z8.alloc (.cells #[.string ⟨#[112]⟩, .slice none 0 0, .slice (some ⟨w.heap.size + 1 + 1 + 1 + 1 + 1 + 1 + 1, 0, none⟩) 2 2] 25) := ⟨_, rfl⟩
  have b9 : Below z8.heap.size z8 z9 := by rw [e9]; exact below_box _ _
  have x9 := Bx.new z8 #[.string ⟨#[112]⟩, .slice none 0 0, .slice (some ⟨w.heap.size + 1 + 1 + 1 + 1 + 1 + 1 + 1, 0, none⟩) 2 2] 25
  rw [← e9] at x9
  rw [s8] at x9
  have s9 : z9.heap.size = w.heap.size + 1 + 1 + 1 + 1 + 1 + 1 + 1 + 1 + 1 := by rw [e9]; simp [s8]
  rw [← e9]
  refine ⟨⟨((((((((x1.below b2).below b3).below b4).below b5).below b6).below b7).below b8).below b9), (((((((x2.below b3).below b4).below b5).below b6).below b7).below b8).below b9), ((((((x3.below b4).below b5).below b6).below b7).below b8).below b9), (((((x4.below b5).below b6).below b7).below b8).below b9), ((((x5.below b6).below b7).below b8).below b9), (((x6.below b7).below b8).below b9), ((x7.below b8).below b9), (x8.below b9), x9⟩, ?_⟩
  exact (below_2 (below_2 (below_2 (below_2 (below_2 (below_2 (below_2 (below_2 b1 b2) b3) b4) b5) b6) b7) b8) b9)
set_option maxHeartbeats 8000000 in
set_option maxRecDepth 100000 in
theorem examples_any (w : World) : Calls Tryd.prog 24 #[] w fun e' w' => e' = .returned (.bool true) ∧ Below w.heap.size w w' := by
  obtain ⟨hE, hB⟩ := ex_chain w
  obtain ⟨F, hF⟩ : ∃ F, (((((((((w.alloc (.cells #[.int .i64 1, .int .i64 1, .string ⟨#[]⟩, .slice none 0 0] 52)).alloc (.cells #[.int .i64 1, .int .i64 1, .string ⟨#[]⟩, .slice none 0 0, .int .i64 1, .int .i64 2, .string ⟨#[]⟩, .slice none 0 0] 52)).alloc (.cells #[.int .i64 4, .int .i64 0, .string ⟨#[]⟩, .slice (some ⟨w.heap.size + 1, 0, none⟩) 2 2] 52)).alloc (.cells #[.int .i64 2, .int .i64 0, .string ⟨#[97]⟩, .slice none 0 0] 52)).alloc (.cells #[.int .i64 22, .int .i64 0, .string ⟨#[]⟩, .slice (some ⟨w.heap.size + 1 + 1 + 1, 0, none⟩) 1 1] 52)).alloc (.cells #[.int .i64 25, .int .i64 0, .string ⟨#[]⟩, .slice none 0 0] 52)).alloc (.cells #[.int .i64 1, .int .i64 1, .string ⟨#[]⟩, .slice none 0 0, .int .i64 26, .int .i64 0, .string ⟨#[]⟩, .slice none 0 0] 52)).alloc (.cells #[.int .i64 1, .string ⟨#[120]⟩, .int .i64 0, .int .i64 4, .int .i64 0, .string ⟨#[]⟩, .slice (some ⟨w.heap.size + 1 + 1 + 1 + 1 + 1 + 1, 0, none⟩) 2 2, .int .i64 0, .int .i64 0, .string ⟨#[]⟩, .slice none 0 0, .slice none 0 0, .slice none 0 0, .int .i64 7, .string ⟨#[]⟩, .int .i64 0, .int .i64 3, .int .i64 0, .string ⟨#[120]⟩, .slice none 0 0, .int .i64 0, .int .i64 0, .string ⟨#[]⟩, .slice none 0 0, .slice none 0 0, .slice none 0 0] 56)).alloc (.cells #[.string ⟨#[112]⟩, .slice none 0 0, .slice (some ⟨w.heap.size + 1 + 1 + 1 + 1 + 1 + 1 + 1, 0, none⟩) 2 2] 25)) = F := ⟨_, rfl⟩
  rw [hF] at hE hB
  have HE := Lib.hid hE
  have HB := Lib.hid hB
  have HF := Lib.hid hF
  clear hE hB hF
  go_enter Tryd.func24, Tryd.ntmps24
  go_wp2_with fail
  rw [HF.out]
  refine (call_first HE.out).mono ?_; rintro e' w1 ⟨rfl, hb⟩
  have H1 := Lib.hid (HE.out.below hb)
  have B1 := Lib.hid (below_2 HB.out hb)
  clear hb HF
  have y0 := H1.out.c2.cell 0
  have y1 := H1.out.c2.cell 1
  have y2 := H1.out.c2.cell 2
  have y3 := H1.out.c2.cell 3
  simp only [List.getElem?_toArray, List.getElem?_cons_succ, List.getElem?_cons_zero] at y0 y1 y2 y3
  go_wp2_with fail
  refine (call_ps H1.out).mono ?_; rintro e' w2 ⟨rfl, hb⟩
  have H2 := Lib.hid (H1.out.below hb)
  have B2 := Lib.hid (below_2 B1.out hb)
  clear hb y0 y1 y2 y3
  have y0 := H2.out.c4.cell 0
  have y1 := H2.out.c4.cell 1
  have y2 := H2.out.c4.cell 2
  have y3 := H2.out.c4.cell 3
  simp only [List.getElem?_toArray, List.getElem?_cons_succ, List.getElem?_cons_zero] at y0 y1 y2 y3
  go_wp2_with fail
  refine (call_pg H2.out).mono ?_; rintro e' w3 ⟨rfl, hb⟩
  have H3 := Lib.hid (H2.out.below hb)
  have B3 := Lib.hid (below_2 B2.out hb)
  clear hb y0 y1 y2 y3
  have y0 := H3.out.c5.cell 0
  have y1 := H3.out.c5.cell 1
  have y2 := H3.out.c5.cell 2
  have y3 := H3.out.c5.cell 3
  simp only [List.getElem?_toArray, List.getElem?_cons_succ, List.getElem?_cons_zero] at y0 y1 y2 y3
  go_wp2_with fail
  refine (call_pn H3.out).mono ?_; rintro e' w4 ⟨rfl, hb⟩
  have H4 := Lib.hid (H3.out.below hb)
  have B4 := Lib.hid (below_2 B3.out hb)
  clear hb y0 y1 y2 y3
  have y0 := H4.out.c5.cell 0
  have y1 := H4.out.c5.cell 1
  have y2 := H4.out.c5.cell 2
  have y3 := H4.out.c5.cell 3
  simp only [List.getElem?_toArray, List.getElem?_cons_succ, List.getElem?_cons_zero] at y0 y1 y2 y3
  go_wp2_with fail
  refine (call_rn H4.out).mono ?_; rintro e' w5 ⟨rfl, hb⟩
  have H5 := Lib.hid (H4.out.below hb)
  have B5 := Lib.hid (below_2 B4.out hb)
  clear hb y0 y1 y2 y3
  have y0 := H5.out.c4.cell 0
  have y1 := H5.out.c4.cell 1
  have y2 := H5.out.c4.cell 2
  have y3 := H5.out.c4.cell 3
  simp only [List.getElem?_toArray, List.getElem?_cons_succ, List.getElem?_cons_zero] at y0 y1 y2 y3
  go_wp2_with fail
  refine (call_rg H5.out).mono ?_; rintro e' w6 ⟨rfl, hb⟩
  have H6 := Lib.hid (H5.out.below hb)
  have B6 := Lib.hid (below_2 B5.out hb)
  clear hb y0 y1 y2 y3
  go_wp2_with fail
  go_ret
  exact ⟨rfl, B6.out⟩
end Go.Proofs.YtgjnddjpinhkgaaDoor.N
namespace Go.Proofs.YtgjnddjpinhkgaaDoor.N
open Go.RowKit
open A (Ex Pr exprs exV exO okE prV prO OkP PrIn GivesXs)
open L (below_2 below_box ret_bool ret_int)

theorem chk_val {p : Pr} (h : (Y.chk p).2 = 0) : A.valE p = 0 := ((Y.chk_main p).2 h).val
set_option maxHeartbeats 8000000 in
set_option maxRecDepth 100000 in
theorem lawSound_any (p : Pr) (a1 a2 : Option Addr) (c1 c2 : Nat) (hok : OkP p) (hc1 : p.params.length ≤ c1) (w : World) (ht : Y.Tb w) (hK : PrIn w p a1 a2) :
    Calls Tryd.prog 8 #[prV p a1 c1 a2 c2] w fun e' w' => e' = .returned (.bool true) ∧ Below w.heap.size w w' := by
  have hb := below_box w (prO p a1 c1 a2 c2)
  have hbx := A.Bx.new w #[.string p.name, .slice a1 p.params.length c1, .slice a2 p.body.length c2] 25
  have HT := Lib.hid (Y.oCheck_all p a1 a2 c1 c2 hok hc1 _ (ht.below hb) (hK.below hb))
  have HC := Lib.hid (fun w' (t : Y.Tb w') h => oCheck_any p a1 a2 c1 c2 hok hc1 w' t h)
  have HF := Lib.hid (fun w' h => oFirst_all p a1 a2 c1 c2 hok hc1 w' h)
  have HL := Lib.hid (fun w' h => lcleanAll_any p.body a2 c2 w' hok.body hok.bodyLen h)
  have HE := Lib.hid examples_any
  have HTb := Lib.hid (ht.below hb)
  have HK := Lib.hid (hK.below hb)
  have HB := Lib.hid hb
  have HX := Lib.hid hbx
  have hch : checkN p = if (Y.chk p).2 ≠ 0 then (Y.chk p).2 else if (firstN p).2.2 = true then 12 else 0 := rfl
  have hcl : (Y.chk p).2 = 0 → (firstN p).2.2 = !clB p.body := fun h => first_clean (chk_val h)
  generalize checkN p = r at *
  generalize (Y.chk p).2 = x at *
  generalize firstN p = y at *
  generalize clB p.body = z at *
  obtain ⟨y1, y2, y3⟩ := y
  have HCh := Lib.hid hch
  have HCl := Lib.hid hcl
  unfold prO at *
  unfold prV at *
  clear hok hc1 hK hb hbx ht hch hcl
  by_cases h0 : x = 0
  case neg =>
    have b1 : (x != 0) = true := bne_iff_ne.2 h0
    obtain rfl : r = x := by rw [HCh.out, if_pos h0]
    clear h0 HCl HCh
    go_enter Tryd.func8, Tryd.ntmps8
    go_wp2_with fail
    refine HT.out.mono ?_; rintro e' w2 ⟨rfl, hb2⟩
    have HB2 := Lib.hid (below_2 HB.out hb2)
    have HC2 := Lib.hid (HC.out _ (HTb.out.below hb2) (HK.out.below hb2))
    have x0 := (HX.out.below hb2).cell 0
    have x1 := (HX.out.below hb2).cell 1
    have x2 := (HX.out.below hb2).cell 2
    simp at x0 x1 x2
    clear hb2 HT
    go_wp2_with fail
    refine HC2.out.mono ?_; rintro e' w3 ⟨rfl, hb3⟩
    have HB3 := Lib.hid (below_2 HB2.out hb3)
    clear hb3 x0 x1 x2
    go_wp2_with fail
    refine (HE.out _).mono ?_; rintro e' w4 ⟨rfl, hb4⟩
    have HB4 := Lib.hid (below_2 HB3.out hb4)
    clear hb4
    go_wp2_with fail
    go_ret
    exact ⟨rfl, HB4.out⟩
  subst h0
  have hy : y3 = !z := HCl.out rfl
  have hr : r = if y3 = true then 12 else 0 := by rw [HCh.out, if_neg (fun h => h rfl)]
  subst hy
  have HR := Lib.hid hr
  clear hr HCh HCl
  go_enter Tryd.func8, Tryd.ntmps8
  go_wp2_with fail
  refine HT.out.mono ?_; rintro e' w2 ⟨rfl, hb2⟩
  have HB2' := Lib.hid hb2
  have HB2 := Lib.hid (below_2 HB.out hb2)
  have HF2 := Lib.hid (HF.out _ (HK.out.below hb2))
  have x0 := (HX.out.below hb2).cell 0
  have x1 := (HX.out.below hb2).cell 1
  have x2 := (HX.out.below hb2).cell 2
  simp at x0 x1 x2
  clear hb2 HT
  go_wp2_with fail
  refine HF2.out.mono ?_; rintro e' w3 ⟨rfl, hb3⟩
  have HB3' := Lib.hid (below_2 HB2'.out hb3)
  have HB3 := Lib.hid (below_2 HB2.out hb3)
  have HL3 := Lib.hid (HL.out _ (HK.out.below HB3'.out).body)
  have z2 := (HX.out.below HB3'.out).cell 2
  simp at z2
  clear hb3 x0 x1 x2 HF2
  cases z with
  | true =>
    obtain rfl : r = 0 := HR.out
    go_wp2_with fail
    refine HL3.out.mono ?_; rintro e' w4 ⟨rfl, hb4⟩
    have HB4' := Lib.hid (below_2 HB3'.out hb4)
    have HB4 := Lib.hid (below_2 HB3.out hb4)
    have HC4 := Lib.hid (HC.out _ (HTb.out.below HB4'.out) (HK.out.below HB4'.out))
    have x0 := (HX.out.below HB4'.out).cell 0
    have x1 := (HX.out.below HB4'.out).cell 1
    have x2 := (HX.out.below HB4'.out).cell 2
    simp at x0 x1 x2
    clear hb4 z2
    go_wp2_with fail
    refine HC4.out.mono ?_; rintro e' w5 ⟨rfl, hb5⟩
    have HB5 := Lib.hid (below_2 HB4.out hb5)
    clear hb5 x0 x1 x2
    go_wp2_with fail
    refine (HE.out _).mono ?_; rintro e' w6 ⟨rfl, hb6⟩
    have HB6 := Lib.hid (below_2 HB5.out hb6)
    clear hb6
    go_wp2_with fail
    go_ret
    exact ⟨rfl, HB6.out⟩
  | false =>
    obtain rfl : r = 12 := HR.out
    go_wp2_with fail
    refine HL3.out.mono ?_; rintro e' w4 ⟨rfl, hb4⟩
    have HB4' := Lib.hid (below_2 HB3'.out hb4)
    have HB4 := Lib.hid (below_2 HB3.out hb4)
    have HC4 := Lib.hid (HC.out _ (HTb.out.below HB4'.out) (HK.out.below HB4'.out))
    have x0 := (HX.out.below HB4'.out).cell 0
    have x1 := (HX.out.below HB4'.out).cell 1
    have x2 := (HX.out.below HB4'.out).cell 2
    simp at x0 x1 x2
    clear hb4 z2
    go_wp2_with fail
    refine HC4.out.mono ?_; rintro e' w5 ⟨rfl, hb5⟩
    have HB5 := Lib.hid (below_2 HB4.out hb5)
    clear hb5 x0 x1 x2
    go_wp2_with fail
    refine (HE.out _).mono ?_; rintro e' w6 ⟨rfl, hb6⟩
    have HB6 := Lib.hid (below_2 HB5.out hb6)
    clear hb6
    go_wp2_with fail
    go_ret
    exact ⟨rfl, HB6.out⟩
end Go.Proofs.YtgjnddjpinhkgaaDoor.N
