/-
  What the reference of layer 8 returns: countExpr, SmallExpr, EqualExpr: contracts by induction on the tree.
  What the reference of layer 8 returns: EqualExpr: its contract, by induction on the tree.
  What the reference of layer 8 returns: countBody, Small: contracts.
  What the reference of layer 8 returns: walkBody, Walk: contracts.
  What the program's functions of layer 8 return: isAbsent, isMaxValid, isContents, exprError: contracts.
-/
import Derived.Test.YtkjefigebdbkaaaDoorM04
import Derived.Test.YtkjefigebdbkaaaDoorM03
import Derived.Test.YtkjefigebdbkaaaDoorM02
namespace Go.Proofs.YtkjefigebdbkaaaDoor.A
open Go.RowKit
open L (Str isName prt size_len below_2 below_box ret_bool ret_int eql_eq bytes_eq)

/-- a number counted up to a bound: exact up to it, beyond it if there are more -/
structure Cnt (x : Nat) (m r : Int) : Prop where
  pos : 0 ≤ r
  le : r ≤ x
  eq : (x : Int) ≤ m → r = x
  gt : m < x → m < r
  top : r ≤ max m 0 + 100000000000000
theorem cEs_take {l : List Ex} {k : Nat} (h : k < l.length) : cEs (l.take (k + 1)) = cEs (l.take k) + cE l[k] := by
  induction l generalizing k with
  | nil => cases h
  | cons e l ih =>
    cases k with
    | zero => simp [cEs]
    | succ k =>
      have := ih (k := k) (by simpa using h)
      simp only [List.take_succ_cons, cEs, List.getElem_cons_succ] at this ⊢
      omega
theorem cEs_le (l : List Ex) (k : Nat) : cEs (l.take k) ≤ cEs l := by
  induction l generalizing k with
  | nil => simp
  | cons e l ih =>
    cases k with
    | zero => simp [cEs]
    | succ k =>
      have := ih k
      simp only [List.take_succ_cons, cEs] at this ⊢
      omega
set_option maxHeartbeats 4000000 in
set_option maxRecDepth 100000 in
theorem rcount_any : ∀ (e : Ex) (a : Option Addr) (c : Nat) (m : Int), -100000000000000000 ≤ m → m ≤ 1000000 → okE e → ∀ w : World, Kids w a e.args →
    Calls Tryd.prog 45 #[exV e a c, .int .i64 m] w fun e' w' => (∃ r : Int, e' = .returned (.int .i64 r) ∧ Cnt (cE e) m r) ∧ Below w.heap.size w w' := by
  refine Ex.ind (P := fun e => ∀ (a : Option Addr) (c : Nat) (m : Int), -100000000000000000 ≤ m → m ≤ 1000000 → okE e → ∀ w : World, Kids w a e.args →
    Calls Tryd.prog 45 #[exV e a c, .int .i64 m] w fun e' w' => (∃ r : Int, e' = .returned (.int .i64 r) ∧ Cnt (cE e) m r) ∧ Below w.heap.size w w') ?_
  intro o n s l ih a c m hm0 hm1 hok w hK
  obtain ⟨hs, hl, hoks⟩ := okE_open hok
  have HW := Lib.hid (below_box w (exO (.mk o n s l) a c))
  have HBL := Lib.hid (fun w' hb => box_later (w := w) (w' := w') (e := .mk o n s l) (a := a) (c := c) hb)
  have HKK : Hid (Kids w a l) := hK
  have HIH := Lib.hid ih
  have HOK := Lib.hid hoks
  simp only [exV_mk, exO_mk, op_mk, n_mk, s_mk, args_mk] at HW HBL ⊢
  obtain ⟨g, hg⟩ : ∃ g, l.length = g := ⟨_, rfl⟩
  have HL := Lib.hid hg
  have HC : Hid (cE (.mk o n s l) = 1 + s.size / 64 + cEs l) := by show _ = _; rw [cE]
  rw [hg] at HW HBL hl ⊢
  obtain ⟨q, hq⟩ : ∃ q, s.size / 64 = q := ⟨_, rfl⟩
  have hq2 : q ≤ 20000000000000 := by omega
  have hdiv : (s.size : Int).tdiv 64 = (q : Int) := by rw [← hq]; rfl
  have hdiv2 : (s.size : Int) / 64 = (q : Int) := by omega
  rw [hq] at HC
  have HC0 : Hid (Cnt (1 + q + cEs (l.take 0)) m (1 + (q : Int))) := by
    rw [List.take_zero, cEs]
    exact ⟨by omega, by omega, fun _ => by omega, fun h => by omega, by omega⟩
  clear hg hK ih hoks hok hq
  go_enter Tryd.func45, Tryd.ntmps45
  go_wp2_with fail
  go_loopw [5, 6] (fun s5 s6 wr => ∃ (k : Nat) (x : Int), k ≤ g ∧ s6 = .int .i64 k ∧ s5 = .int .i64 x ∧ 0 ≤ x ∧ x ≤ 200000000000000 ∧ Hid (Cnt (1 + q + cEs (l.take k)) m x) ∧ Hid (Below (w.alloc (.cells #[.int .i64 o, .int .i64 n, .string s, .slice a g c] 46)).heap.size (w.alloc (.cells #[.int .i64 o, .int .i64 n, .string s, .slice a g c] 46)) wr)) (fun _ s6 _ => g - (intOf s6).toNat)
  case atStart => exact ⟨0, 1 + (q : Int), Nat.zero_le _, rfl, by go_num, by omega, by omega, HC0, Below.refl _ _⟩
  case round =>
    obtain ⟨k, x, hk, rfl, rfl, hx0, hx1, HX, HB⟩ := hrel
    obtain ⟨c0, c1, c2, c3⟩ := HBL.out _ HB.out
    have HBB := Lib.hid (below_2 HW.out HB.out)
    have hcl := cEs_le l k
    by_cases hlt : k < g
    · by_cases hxm : x ≤ m
      · have hlx : k < l.length := by rw [HL.out]; exact hlt
        have hT := cEs_take hlx
        obtain ⟨b2, i2, rfl, hat⟩ := (HKK.out.below HBB.out).open hlx
        obtain ⟨d0, d1, d2, a2, cc, d3, hk2⟩ := hat.open
        have HCC := Lib.hid (HIH.out k hlx a2 cc (m - x) (by omega) (by omega) (HOK.out.get k hlx) _ hk2)
        have HT := Lib.hid hT
        clear hat hk2 hT hcl
        unfold exV at HCC
        generalize cE l[k] = y at HCC HT
        generalize l[k].args.length = m2 at d3 HCC
        generalize l[k].op = o2 at d0 HCC
        generalize l[k].n = n2 at d1 HCC
        generalize l[k].s = s2 at d2 HCC
        have bx : decide (x ≤ m) = true := decide_eq_true hxm
        go_wp2_with fail
        refine HCC.out.mono ?_; rintro e w2 ⟨⟨r, rfl, hr⟩, hb2⟩
        have h1 := hr.pos
        have h2 := hr.top
        have HN : Hid (Cnt (1 + q + cEs (l.take (k + 1))) m (x + r)) := by
          have hc := HX.out
          have hs := hc.eq (by apply Decidable.byContradiction; intro h; have := hc.gt (by omega); omega)
          have g1 := hr.le
          have g2 := hr.eq
          have g3 := hr.gt
          rw [HT.out]
          exact ⟨by omega, by omega, fun h => by have := g2 (by omega); omega, fun h => by have := g3 (by omega); omega, by omega⟩
        have hxr : x + r ≤ 200000000000000 := by omega
        clear hr
        go_wp2_with fail
        go_roundw
        case rel => exact ⟨k + 1, x + r, by omega, by go_num, by go_num, by omega, hxr, HN, below_2 HB.out hb2⟩
        case measure => simp [intOf]; omega
      · have HV : Hid (Cnt (cE (.mk o n s l)) m x) := by
          have hc := HX.out
          have h1 := hc.le
          have h2 := hc.top
          rw [HC.out]
          exact ⟨hx0, by omega, fun h => by omega, fun _ => by omega, h2⟩
        have bx : decide (x ≤ m) = false := decide_eq_false hxm
        clear hcl
        go_wp2_with fail
        go_ret
        exact ⟨⟨x, rfl, HV.out⟩, HBB.out⟩
    · have HV : Hid (Cnt (cE (.mk o n s l)) m x) := by
        have hc := HX.out
        rw [List.take_of_length_le (by rw [HL.out]; omega), ← HC.out] at hc
        exact hc
      clear hcl
      go_wp2_with fail
      go_ret
      exact ⟨⟨x, rfl, HV.out⟩, HBB.out⟩
end Go.Proofs.YtkjefigebdbkaaaDoor.A
namespace Go.Proofs.YtkjefigebdbkaaaDoor.A
open Go.RowKit
open L (Str isName prt size_len below_2 below_box ret_bool ret_int eql_eq bytes_eq)

theorem bytes_dec (a b : ByteArray) : (a.toList == b.toList) = decide (a = b) := by
  rw [eql_eq]
  exact decide_eq_decide.2 ⟨fun h => bytes_eq h, fun h => by rw [h]⟩
end Go.Proofs.YtkjefigebdbkaaaDoor.A
namespace Go.Proofs.YtkjefigebdbkaaaDoor.A
open Go.RowKit
open L (Str isName prt size_len below_2 below_box ret_bool ret_int eql_eq bytes_eq)

/-- a number counted up to a bound, whatever lies beyond -/
structure Core (x : Nat) (m r : Int) : Prop where
  pos : 0 ≤ r
  le : r ≤ x
  eq : (x : Int) ≤ m → r = x
  gt : m < x → m < r
theorem Cnt.core {x : Nat} {m r : Int} (h : Cnt x m r) : Core x m r := ⟨h.pos, h.le, h.eq, h.gt⟩
theorem Core.add {x y : Nat} {m n r : Int} (h : Core x m n) (h2 : Core y (m - n) r) : Core (x + y) m (n + r) := by
  obtain ⟨a1, a2, a3, a4⟩ := h
  obtain ⟨b1, b2, b3, b4⟩ := h2
  refine ⟨by omega, by omega, fun h => ?_, fun h => ?_⟩
  · have := a3 (by omega); have := b3 (by omega); omega
  · by_cases hx : (x : Int) ≤ m
    · have := a3 hx; have := b4 (by omega); omega
    · have := a4 (by omega); omega
theorem Core.plus {x y : Nat} {m n : Int} (h : Core x m n) (hn : n ≤ m) : Core (x + y) m (n + y) := by
  obtain ⟨a1, a2, a3, a4⟩ := h
  have : n = x := a3 (by apply Decidable.byContradiction; intro hx; have := a4 (by omega); omega)
  exact ⟨by omega, by omega, fun h => by omega, fun h => by omega⟩
theorem cS_parts (s : St) : cS s = 1 + s.name.size / 64 + cE s.a + cE s.b + cB s.body + cB s.els := by
  obtain ⟨o, nm, mx, a, b, bd, el⟩ := s
  rw [cS]; rfl
theorem cB_take {l : List St} {k : Nat} (h : k < l.length) : cB (l.take (k + 1)) = cB (l.take k) + cS l[k] := by
  induction l generalizing k with
  | nil => cases h
  | cons e l ih =>
    cases k with
    | zero => simp [cB]
    | succ k =>
      have := ih (k := k) (by simpa using h)
      simp only [List.take_succ_cons, cB, List.getElem_cons_succ] at this ⊢
      omega
theorem cB_le (l : List St) (k : Nat) : cB (l.take k) ≤ cB l := by
  induction l generalizing k with
  | nil => simp
  | cons e l ih =>
    cases k with
    | zero => simp [cB]
    | succ k =>
      have := ih k
      simp only [List.take_succ_cons, cB] at this ⊢
      omega
/-- what countBody's result is -/
structure CntB (x : Nat) (m r : Int) : Prop where
  core : Core x m r
  top : r ≤ max m 0 + 300000000000000
  none : m < 0 → r = 0
def QC (l : List St) : Prop := ∀ (a : Option Addr) (c : Nat) (m : Int), -10000000000000000 ≤ m → m ≤ 1000000 → l.length ≤ 1000000000000000 → okB l → ∀ w : World, Bodies w a l →
    Calls Tryd.prog 18 #[.slice a l.length c, .int .i64 m] w fun e' w' => (∃ r : Int, e' = .returned (.int .i64 r) ∧ CntB (cB l) m r) ∧ Below w.heap.size w w'
set_option maxHeartbeats 8000000 in
set_option maxRecDepth 100000 in
theorem rcountBody_any : ∀ l, QC l := by
  refine body_ind fun l ih => ?_
  intro a c m hm0 hm1 hl hok w hK
  have HKK : Hid (Bodies w a l) := hK
  have HIH := Lib.hid ih
  have HOK := Lib.hid hok
  obtain ⟨g, hg⟩ : ∃ g, l.length = g := ⟨_, rfl⟩
  have HL := Lib.hid hg
  rw [hg] at hl ⊢
  have HC0 : Hid (m < 0 ∨ Core (cB (l.take 0)) m 0) := by
    rw [List.take_zero, cB]
    by_cases h : m < 0
    · exact Or.inl h
    · exact Or.inr ⟨by omega, by omega, fun _ => rfl, fun h => by omega⟩
  clear hg hK ih hok
  go_enter Tryd.func18, Tryd.ntmps18
  go_wp2_with fail
  go_loopw [5, 6] (fun s5 s6 wr => ∃ (k : Nat) (x : Int), k ≤ g ∧ s6 = .int .i64 k ∧ s5 = .int .i64 x ∧ 0 ≤ x ∧ x ≤ max m 0 + 300000000000000 ∧ (m < 0 → x = 0) ∧ Hid (m < 0 ∨ Core (cB (l.take k)) m x) ∧ Below w.heap.size w wr) (fun _ s6 _ => g - (intOf s6).toNat)
  case atStart => exact ⟨0, 0, Nat.zero_le _, rfl, rfl, by omega, by omega, fun _ => rfl, HC0, Below.refl _ _⟩
  case round =>
    obtain ⟨k, x, hk, rfl, rfl, hx0, hx1, hxn, HX, hb⟩ := hrel
    have hcl := cB_le l k
    by_cases hlt : k < g
    · by_cases hxm : x ≤ m
      · have hm : 0 ≤ m := by omega
        have hX : Core (cB (l.take k)) m x := HX.out.resolve_left (by omega)
        have hlx : k < l.length := by rw [HL.out]; exact hlt
        have hT := cB_take hlx
        rw [cS_parts] at hT
        obtain ⟨b2, i2, rfl, hat⟩ := (HKK.out.below hb).open hlx
        have ho := okS_open (HOK.out.get k hlx)
        obtain ⟨q1, q2⟩ := HIH.out k hlx
        generalize l[k] = s at hat hT ho q1 q2
        obtain ⟨a1, c1, a2, c2, a3, c3, a4, c4, hcs, hks⟩ := hat.open
        have HE1 := Lib.hid (fun m hm0 hm1 w hK => rcount_any s.a a1 c1 m hm0 hm1 ho.a w hK)
        have HE2 := Lib.hid (fun m hm0 hm1 w hK => rcount_any s.b a2 c2 m hm0 hm1 ho.b w hK)
        have HQ1 := Lib.hid (fun m hm0 hm1 w hK => q1 a3 c3 m hm0 hm1 ho.bodyLen ho.body w hK)
        have HQ2 := Lib.hid (fun m hm0 hm1 w hK => q2 a4 c4 m hm0 hm1 ho.elsLen ho.els w hK)
        have HCs := Lib.hid hcs
        have HKs := Lib.hid hks
        obtain ⟨k0, k1, k2, k3, k4, k5, k6, k7, k8, k9, k10, k11, k12⟩ := hcs
        have hnm := ho.name
        obtain ⟨q, hq⟩ : ∃ q, s.name.size / 64 = q := ⟨_, rfl⟩
        have hq2 : q ≤ 20000000000000 := by omega
        have hdiv : (s.name.size : Int).tdiv 64 = (q : Int) := by rw [← hq]; rfl
        have hdiv2 : (s.name.size : Int) / 64 = (q : Int) := by omega
        rw [hq] at hT
        have HX1 : Hid (Core (cB (l.take k) + (1 + q)) m (x + 1 + (q : Int))) := by
          have := hX.plus (y := 1 + q) hxm
          rwa [show x + ((1 + q : Nat) : Int) = x + 1 + (q : Int) by omega] at this
        have HT := Lib.hid hT
        have bx : decide (x ≤ m) = true := decide_eq_true hxm
        unfold exV at HE1 HE2
        have hx1m : x ≤ 1000000 := by omega
        clear hX hT hat q1 q2 ho hq hcl hks hx1 hxn
        go_wp2_with fail
        refine (HE1.out (m - (x + 1 + (q : Int))) (by omega) (by omega) _ HKs.out.a).mono ?_; rintro e w1 ⟨⟨r1, rfl, hr1⟩, hb1⟩
        have HR1 := Lib.hid hr1.core
        have p1 := hr1.pos
        have t1 := hr1.top
        clear hr1 k0 k1 k2 k3 k4 k5 k6 k7 k8 k9 k10 k11 k12
        have HB1 := Lib.hid hb1
        obtain ⟨k0, k1, k2, k3, k4, k5, k6, k7, k8, k9, k10, k11, k12⟩ := HCs.out.below hb1
        clear hb1
        go_wp2_with fail
        refine (HE2.out (m - (x + 1 + (q : Int) + r1)) (by omega) (by omega) _ (HKs.out.below HB1.out).b).mono ?_; rintro e w2 ⟨⟨r2, rfl, hr2⟩, hb2⟩
        have HR2 := Lib.hid hr2.core
        have p2 := hr2.pos
        have t2 := hr2.top
        clear hr2 k0 k1 k2 k3 k4 k5 k6 k7 k8 k9 k10 k11 k12
        have HB2 := Lib.hid (below_2 HB1.out hb2)
        obtain ⟨k0, k1, k2, k3, k4, k5, k6, k7, k8, k9, k10, k11, k12⟩ := HCs.out.below HB2.out
        clear hb2
        go_wp2_with fail
        refine (HQ1.out (m - (x + 1 + (q : Int) + r1 + r2)) (by omega) (by omega) _ (HKs.out.below HB2.out).body).mono ?_; rintro e w3 ⟨⟨r3, rfl, hr3⟩, hb3⟩
        have HR3 := Lib.hid hr3.core
        have p3 := hr3.core.pos
        have t3 := hr3.top
        have u3 : x + 1 + (q : Int) + r1 + r2 + r3 ≤ m + 300000000000000 := by
          by_cases h : m - (x + 1 + (q : Int) + r1 + r2) < 0
          · have := hr3.none h; omega
          · omega
        clear hr3 t3 k0 k1 k2 k3 k4 k5 k6 k7 k8 k9 k10 k11 k12
        have HB3 := Lib.hid (below_2 HB2.out hb3)
        obtain ⟨k0, k1, k2, k3, k4, k5, k6, k7, k8, k9, k10, k11, k12⟩ := HCs.out.below HB3.out
        clear hb3
        go_wp2_with fail
        refine (HQ2.out (m - (x + 1 + (q : Int) + r1 + r2 + r3)) (by omega) (by omega) _ (HKs.out.below HB3.out).els).mono ?_; rintro e w4 ⟨⟨r4, rfl, hr4⟩, hb4⟩
        have p4 := hr4.core.pos
        have t4 := hr4.top
        have u4 : x + 1 + (q : Int) + r1 + r2 + r3 + r4 ≤ max m 0 + 300000000000000 := by
          by_cases h : m - (x + 1 + (q : Int) + r1 + r2 + r3) < 0
          · have := hr4.none h; omega
          · omega
        have HN : Hid (m < 0 ∨ Core (cB (l.take (k + 1))) m (x + 1 + (q : Int) + r1 + r2 + r3 + r4)) := by
          right
          have := (((HX1.out.add HR1.out).add HR2.out).add HR3.out).add hr4.core
          rw [HT.out]
          have e : cB (l.take k) + (1 + q + cE s.a + cE s.b + cB s.body + cB s.els) = cB (l.take k) + (1 + q) + cE s.a + cE s.b + cB s.body + cB s.els := by omega
          rw [e]
          exact this
        have HB4 := Lib.hid (below_2 (below_2 hb HB3.out) hb4)
        clear hr4 t4 k0 k1 k2 k3 k4 k5 k6 k7 k8 k9 k10 k11 k12 hb4
        go_wp2_with fail
        go_roundw
        case rel => exact ⟨k + 1, x + 1 + (q : Int) + r1 + r2 + r3 + r4, by omega, by go_num, by go_num, by omega, u4, fun h => absurd h (by omega), HN, HB4.out⟩
        case measure => simp [intOf]; omega
      · have HV : Hid (CntB (cB l) m x) := by
          show CntB _ _ _
          refine ⟨?_, hx1, hxn⟩
          rcases HX.out with h | h
          · have := hxn h
            subst this
            exact ⟨by omega, by omega, fun h2 => by omega, fun _ => by omega⟩
          · have h1 := h.le
            exact ⟨hx0, by omega, fun h => by omega, fun _ => by omega⟩
        have bx : decide (x ≤ m) = false := decide_eq_false hxm
        clear hcl hxn
        go_wp2_with fail
        go_ret
        exact ⟨⟨x, rfl, HV.out⟩, hb⟩
    · have HV : Hid (CntB (cB l) m x) := by
        show CntB _ _ _
        refine ⟨?_, hx1, hxn⟩
        rcases HX.out with h | h
        · have := hxn h
          subst this
          exact ⟨by omega, by omega, fun h2 => by omega, fun _ => by omega⟩
        · rw [List.take_of_length_le (by rw [HL.out]; omega)] at h
          exact h
      clear hcl hxn
      go_wp2_with fail
      go_ret
      exact ⟨⟨x, rfl, HV.out⟩, hb⟩
end Go.Proofs.YtkjefigebdbkaaaDoor.A
namespace Go.Proofs.YtkjefigebdbkaaaDoor.A
open Go.RowKit
open L (Str isName prt size_len below_2 below_box ret_bool ret_int)

theorem grown_below {w w' : World} (r : Option Nat) (h : Below w.heap.size w w') : w.grownBy w' r := ⟨h.os, h.tape, h.output, h.size, fun k hk _ => h.block k hk⟩
theorem ownV_below {w w' : World} {B n size : Nat} {e : TypeId} {v : Value} {xs : List Value} (h : w.ownsRow B e size v n xs) (hb : Below w.heap.size w w') : w'.ownsRow B e size v n xs := by
  refine ⟨h.1, ?_⟩
  rcases h.2 with h0 | ⟨g, cap, cur, hv, hB, hg, r⟩
  · exact Or.inl h0
  · exact Or.inr ⟨g, cap, cur, hv, hB, (hb.block g (Array.getElem?_eq_some_iff.1 hg).1).trans hg, r⟩
/-- the visits so far: a row that the call owns -/
structure Cur (w0 W wr : World) (v0 v : Value) (l : List VT) (X : List V) : Prop where
  own : wr.ownsRow w0.heap.size 66 20 v l.length (vcs l)
  each : ∀ x ∈ l, x.In w0
  eq : vs l = X.take 401
  grown : W.grownBy wr v0.ownBlock
  blk : ∀ g, v.ownBlock = some g → v0.ownBlock = some g ∨ W.heap.size ≤ g
namespace Cur
variable {w0 W wr : World} {v0 v : Value} {l : List VT} {X : List V}
theorem len (h : Cur w0 W wr v0 v l X) : l.length ≤ 401 := by
  have := congrArg List.length h.eq
  rw [vs_len, List.length_take] at this
  omega
theorem shape (h : Cur w0 W wr v0 v l X) : ∃ p q, v = .slice p l.length q := by
  rcases h.own.2 with ⟨hv, h0⟩ | ⟨g, cap, cur, hv, _⟩
  · exact ⟨none, 0, by rw [hv, h0]⟩
  · exact ⟨_, cap, hv⟩
theorem start (hown : W.ownsRow w0.heap.size 66 20 v l.length (vcs l)) (hin : ∀ x ∈ l, x.In w0) (hlen : l.length ≤ 401) : Cur w0 W W v v l (vs l) :=
  ⟨hown, hin, (List.take_of_length_le (by rw [vs_len]; omega)).symm, World.grownBy.refl _ _, fun _ h => Or.inl h⟩
theorem below (h : Cur w0 W wr v0 v l X) (hb0 : Below w0.heap.size w0 W) (hv : ∀ g, v0.ownBlock = some g → w0.heap.size ≤ g) : Below w0.heap.size w0 wr := hb0.grown h.grown hb0.size hv
theorem later {w' : World} (h : Cur w0 W wr v0 v l X) (hb : Below wr.heap.size wr w') : Cur w0 W w' v0 v l X := ⟨ownV_below h.own hb, h.each, h.eq, grown_2 (r2 := none) h.grown (grown_below _ hb) (fun g hg => by cases hg), h.blk⟩
theorem step {w' : World} {Y : List V} {e' : Ending} (h : Cur w0 W wr v0 v l X) (g : GivesW w0 wr v (vs l ++ Y) e' w') : ∃ p q l', e' = .returned (.slice p l'.length q) ∧ l.length ≤ l'.length ∧ Cur w0 W w' v0 (.slice p l'.length q) l' (X ++ Y) := by
  obtain ⟨v', l', rfl, ho, hi, hv, hg, hl⟩ := g
  have hc : Cur w0 W w' v0 v' l' (X ++ Y) := ⟨ho, hi, by rw [hv, h.eq, take_take_app], grown_2 h.grown hg h.blk, fun g hg => by
    rcases hl g hg with h2 | h2
    · exact h.blk g h2
    · exact Or.inr (Nat.le_trans h.grown.size h2)⟩
  obtain ⟨p, q, rfl⟩ := hc.shape
  refine ⟨p, q, l', rfl, ?_, hc⟩
  have h1 := congrArg List.length hv
  rw [vs_len, List.length_take, List.length_append, vs_len] at h1
  have := h.len
  omega
theorem push {w1 : World} {o : Obj} {y : VT} {g1 cap : Nat} (h : Cur w0 W wr v0 v l X) (h4 : l.length ≤ 400) (hy : y.In w0)
    (h1 : w1.ownsRow w0.heap.size 66 20 (.slice (some ⟨g1, 0, none⟩) (l.length + 1) cap) (l ++ [y]).length (vcs (l ++ [y]))) (h2 : (wr.alloc o).grownBy w1 v.ownBlock) (h3 : v.ownBlock = some g1 ∨ g1 = wr.heap.size + 1) :
    ∃ l', l'.length = l.length + 1 ∧ Cur w0 W w1 v0 (.slice (some ⟨g1, 0, none⟩) l'.length cap) l' (X ++ [y.v]) := by
  have hX := congrArg List.length h.eq
  rw [vs_len, List.length_take] at hX
  have hll : (l ++ [y]).length = l.length + 1 := by simp
  refine ⟨l ++ [y], hll, ?_, ?_, ?_, ?_, ?_⟩
  · rw [← hll] at h1; exact h1
  · intro x hx
    rcases List.mem_append.1 hx with hx | hx
    · exact h.each x hx
    · rw [List.mem_singleton] at hx; rw [hx]; exact hy
  · rw [vs_app, h.eq, List.take_of_length_le (by omega), List.take_of_length_le (by rw [List.length_append]; simp; omega)]
    rfl
  · exact grown_2 (grown_2 h.grown (World.grownBy_alloc _ o v.ownBlock) h.blk) h2 h.blk
  · intro g hg
    cases hg
    rcases h3 with h3 | h3
    · exact h.blk _ h3
    · refine Or.inr ?_
      show _ ≤ g1
      have := h.grown.size
      omega
theorem same {Y : List V} {e : Ex} {x : Prop} [Decidable x] (h : Cur w0 W wr v0 v l X) (hx : preR e = if x then [] else Y) (ht : x := by exact rfl) : Cur w0 W wr v0 v l (X ++ preR e) := by
  rw [hx, if_pos ht, List.append_nil]
  exact h
end Cur
structure Four (w : World) (e : Ex) (b i : Nat) (a : Option Addr) (c : Nat) : Prop where
  k0 : w.cell? ⟨b, i, none⟩ = some (.int .i64 e.op)
  k1 : w.cell? ⟨b, i + 1, none⟩ = some (.int .i64 e.n)
  k2 : w.cell? ⟨b, i + 2, none⟩ = some (.string e.s)
  k3 : w.cell? ⟨b, i + 3, none⟩ = some (.slice a e.args.length c)
theorem StCells.fourA {w : World} {s : St} {b i : Nat} {a1 a2 a3 a4 : Option Addr} {c1 c2 c3 c4 : Nat} (h : StCells w s b i a1 c1 a2 c2 a3 c3 a4 c4) : Four w s.a b (i + 3) a1 c1 := ⟨h.k3, h.k4, h.k5, h.k6⟩
theorem StCells.fourB {w : World} {s : St} {b i : Nat} {a1 a2 a3 a4 : Option Addr} {c1 c2 c3 c4 : Nat} (h : StCells w s b i a1 c1 a2 c2 a3 c3 a4 c4) : Four w s.b b (i + 7) a2 c2 := ⟨h.k7, h.k8, h.k9, h.k10⟩
end Go.Proofs.YtkjefigebdbkaaaDoor.A
namespace Go.Proofs.YtkjefigebdbkaaaDoor.A
open Go.RowKit
open L (Str isName prt size_len below_2 below_box ret_bool ret_int eql_eq bytes_eq qt qt_long qt_bad qt_ok pairS)

theorem Four.below {w w' : World} {e : Ex} {b i : Nat} {a : Option Addr} {c : Nat} (h : Four w e b i a c) (hb : Below w.heap.size w w') : Four w' e b i a c := by
  have hlt : b < w.heap.size := block_lt_of_cell h.k0
  exact ⟨(hb.cell hlt).trans h.k0, (hb.cell hlt).trans h.k1, (hb.cell hlt).trans h.k2, (hb.cell hlt).trans h.k3⟩
theorem ExAt.four {w : World} {e : Ex} {b i : Nat} (h : ExAt w e b i) : ∃ a c, Four w e b i a c ∧ Kids w a e.args := by
  obtain ⟨d0, d1, d2, a, c, d3, hk⟩ := h.open
  exact ⟨a, c, ⟨d0, d1, d2, d3⟩, hk⟩
set_option maxHeartbeats 2000000 in
set_option maxRecDepth 100000 in
theorem oabsent_any (e : Ex) (b i : Nat) (a : Option Addr) (c : Nat) (w : World) (h : Four w e b i a c) : Calls Tryd.prog 133 #[.pointer (some ⟨b, i, none⟩)] w fun e' w' => e' = .returned (.bool (absent e)) ∧ w' = w := by
  obtain ⟨k0, k1, k2, k3⟩ := h
  have hv : absent e = ((e.op == 0) && (e.n == 0) && (e.s.toList == []) && ((e.args.length : Int) == 0)) := by
    unfold absent
    rw [nil_of, Bool.beq_eq_decide_eq, Bool.beq_eq_decide_eq, Bool.beq_eq_decide_eq]
    congr 1
    cases e.args with
    | nil => rfl
    | cons x l => rw [decide_eq_false (by simp; omega)]; rfl
  have he : e.s.toList.isEmpty = (e.s.toList == []) := by cases e.s.toList <;> rfl
  rw [hv]
  clear hv
  generalize (e.s.toList == []) = b3 at he ⊢
  obtain ⟨b1, h1⟩ : ∃ b, (e.op == 0) = b := ⟨_, rfl⟩
  obtain ⟨b2, h2⟩ : ∃ b, (e.n == 0) = b := ⟨_, rfl⟩
  obtain ⟨b4, h4⟩ : ∃ b, ((e.args.length : Int) == 0) = b := ⟨_, rfl⟩
  rw [h1, h2, h4]
  cases b1 <;> cases b2 <;> cases b3 <;> cases b4
  all_goals
    go_enter Tryd.func133, Tryd.ntmps133
    go_wp2_with fail
    go_ret
    exact ⟨rfl, rfl⟩
theorem ocontents_any (s : ByteArray) (w : World) : Calls Tryd.prog 116 #[.string s] w fun e w' => e = .returned (.bool (plain s)) ∧ Below w.heap.size w w' := by
  have HC := Lib.hid (L.oquote_any s w)
  have HV : Hid (((qt s.data.toList).2 == 0) = plain s) := by
    show _ = _
    unfold plain
    by_cases h : 64 < s.size
    · rw [qt_long h, decide_eq_false (by omega)]; rfl
    · rw [decide_eq_true (by omega), Bool.true_and]
      cases h2 : s.data.toList.all prt
      · rw [qt_bad h h2]; rfl
      · rw [qt_ok h h2]; rfl
  obtain ⟨⟨q, x⟩, hq⟩ : ∃ r, qt s.data.toList = r := ⟨_, rfl⟩
  unfold pairS at HC
  rw [hq] at HC HV
  simp only at HC HV
  clear hq
  generalize plain s = P at HV ⊢
  go_enter Tryd.func116, Tryd.ntmps116
  go_wp2_with fail
  refine HC.out.mono ?_; rintro e w1 ⟨rfl, hb⟩
  go_wp2_with fail
  go_ret
  exact ⟨ret_bool HV.out, hb⟩
set_option maxHeartbeats 4000000 in
set_option maxRecDepth 100000 in
theorem omax_any (s : St) (b i : Nat) (w : World) (k0 : w.cell? ⟨b, i, none⟩ = some (.int .i64 s.op)) (k2 : w.cell? ⟨b, i + 2, none⟩ = some (.int .i64 s.mx)) :
    Calls Tryd.prog 107 #[.pointer (some ⟨b, i, none⟩)] w fun e' w' => e' = .returned (.bool (!badM s)) ∧ w' = w := by
  obtain ⟨b6, h6⟩ : ∃ b, (s.op == 6) = b := ⟨_, rfl⟩
  obtain ⟨b8, h8⟩ : ∃ b, (s.op == 8) = b := ⟨_, rfl⟩
  obtain ⟨c1, g1⟩ : ∃ b, decide (1 ≤ s.mx) = b := ⟨_, rfl⟩
  obtain ⟨c2, g2⟩ : ∃ b, decide (s.mx ≤ 16) = b := ⟨_, rfl⟩
  obtain ⟨c3, g3⟩ : ∃ b, decide (0 ≤ s.mx) = b := ⟨_, rfl⟩
  obtain ⟨c4, g4⟩ : ∃ b, decide (s.mx ≤ 999) = b := ⟨_, rfl⟩
  have HV : Hid ((!badM s) = if b6 = true then c1 && c2 else if b8 = true then c3 && c4 else true) := by
    show _ = _
    subst h6 h8 g1 g2 g3 g4
    unfold badM
    rw [Bool.eq_iff_iff]
    by_cases h6 : s.op = 6
    · have h8 : ¬ s.op = 8 := by omega
      simp [h6]
    · by_cases h8 : s.op = 8
      · simp [h8]
      · simp [h6, h8]
  rw [HV.out]
  clear HV
  cases b6
  · cases b8
    · go_enter Tryd.func107, Tryd.ntmps107
      go_wp2_with fail
      go_ret
      exact ⟨rfl, rfl⟩
    · cases c3 <;> cases c4
      all_goals
        go_enter Tryd.func107, Tryd.ntmps107
        go_wp2_with fail
        go_ret
        exact ⟨rfl, rfl⟩
  · cases c1 <;> cases c2
    all_goals
      go_enter Tryd.func107, Tryd.ntmps107
      go_wp2_with fail
      go_ret
      exact ⟨rfl, rfl⟩
end Go.Proofs.YtkjefigebdbkaaaDoor.A
