/-
  What the program's functions of layer 8 return: equalExprs, slices.EqualFunc of expressions: contracts.
  What the program's functions of layer 8 return: equalStmts, slices.EqualFunc of statements: contracts.
-/
import Derived.Test.YtffamknoamknpaaGE
import Derived.Test.YtffamknoamknpaaGD
import Derived.Deep.Cut
namespace Go.Proofs.Ytffamknoamknpaa.A
open Go.RowKit
open L (Str isName prt size_len below_2 below_box ret_bool ret_int eql_eq bytes_eq)

def EqIH (e : Ex) : Prop := ∀ (e2 : Ex) (a : Option Addr) (c : Nat) (a2 : Option Addr) (c2 : Nat), okE e → okE e2 → ∀ w : World, Kids w a e.args → Kids w a2 e2.args →
  Calls Try.prog 88 #[exV e a c, exV e2 a2 c2] w fun e' w' => e' = .returned (.bool (eqE e e2)) ∧ Below w.heap.size w w'
set_option maxHeartbeats 4000000 in
set_option maxRecDepth 100000 in
theorem oeqFuncE (l : List Ex) (ih : ∀ j (h : j < l.length), EqIH l[j]) (l2 : List Ex) (a : Option Addr) (c : Nat) (a2 : Option Addr) (c2 : Nat) (hok : okEs l) (hok2 : okEs l2) (hl : l.length ≤ 1000000000000000) (hl2 : l2.length ≤ 1000000000000000) (w : World) (hK : Kids w a l) (hK2 : Kids w a2 l2) :
    Calls Try.prog 103 #[.slice a l.length c, .slice a2 l2.length c2, .func (Fn.func 88) #[] #[]] w fun e' w' => e' = .returned (.bool (eqEs l l2)) ∧ Below w.heap.size w w' := by
  have HK := Lib.hid hK
  have HK2 := Lib.hid hK2
  have HIH := Lib.hid ih
  have HOK := Lib.hid hok
  have HOK2 := Lib.hid hok2
  obtain ⟨R, hR⟩ : ∃ R, eqEs l l2 = R := ⟨_, rfl⟩
  rw [hR]
  have hRl := fun h => hR.symm.trans (eqEs_len (l := l) (l2 := l2) h)
  have HR : Hid (eqEs (l.drop 0) (l2.drop 0) = R) := hR
  obtain ⟨g, hg⟩ : ∃ g, l.length = g := ⟨_, rfl⟩
  obtain ⟨g2, hg2⟩ : ∃ g, l2.length = g := ⟨_, rfl⟩
  have HL := Lib.hid hg
  have HL2 := Lib.hid hg2
  rw [hg] at hl hRl ⊢
  rw [hg2] at hl2 hRl ⊢
  clear hK hK2 ih hok hok2 hg hg2 hR
  by_cases h4 : g = g2
  · have b4 : ((g : Int) != (g2 : Int)) = false := by rw [bne_eq_false_iff_eq]; omega
    subst h4
    clear hRl
    go_enter Try.func103, Try.ntmps103
    go_wp2_with fail
    go_loopw [17] (fun s17 wr => ∃ k : Nat, k ≤ g ∧ s17 = .int .i64 k ∧ Hid (eqEs (l.drop k) (l2.drop k) = R) ∧ Hid (Below w.heap.size w wr)) (fun s17 _ => g - (intOf s17).toNat)
    case atStart => exact ⟨0, Nat.zero_le _, rfl, HR, Below.refl _ _⟩
    case round =>
      obtain ⟨k, hk, rfl, HX, HB⟩ := hrel
      by_cases hlt : k < g
      · have hlx : k < l.length := by rw [HL.out]; exact hlt
        have hly : k < l2.length := by rw [HL2.out]; exact hlt
        have hx := HX.out
        rw [drop_ex hlx, drop_ex hly, eqEs] at hx
        obtain ⟨b2', i2, rfl, hat⟩ := (HK.out.below HB.out).open hlx
        obtain ⟨b3', i3, rfl, hat2⟩ := (HK2.out.below HB.out).open hly
        obtain ⟨d0, d1, d2, a4, c4, d3, hk4⟩ := hat.open
        obtain ⟨f0, f1, f2, a5, c5, f3, hk5⟩ := hat2.open
        have hbx := below_box wr (exO l[k] a4 c4)
        have hby := below_2 hbx (below_box (wr.alloc (exO l[k] a4 c4)) (exO l2[k] a5 c5))
        have hlt2 := hat2.lt
        have f0' := (hbx.cell hlt2).trans f0
        have f1' := (hbx.cell hlt2).trans f1
        have f2' := (hbx.cell hlt2).trans f2
        have f3' := (hbx.cell hlt2).trans f3
        have hC := HIH.out k hlx l2[k] a4 c4 a5 c5 (HOK.out.get k hlx) (HOK2.out.get k hly) _ (hk4.below hby) (hk5.below hby)
        have HBY := Lib.hid (below_2 HB.out hby)
        clear hat hat2 hk4 hk5 hbx hby hlt2
        generalize eqE l[k] l2[k] = x at hC hx
        unfold exV exO at hC
        unfold exO at f0' f1' f2' f3' HBY
        have HC := Lib.hid hC
        clear hC
        generalize l[k].args.length = m2 at *
        generalize l[k].op = p0 at *
        generalize l[k].n = p1 at *
        generalize l[k].s = p2 at *
        generalize l2[k].args.length = m3 at *
        generalize l2[k].op = q0 at *
        generalize l2[k].n = q1 at *
        generalize l2[k].s = q2 at *
        cases x
        · rw [Bool.false_and] at hx
          have HV := Lib.hid hx
          clear hx
          go_wp2_with fail
          refine HC.out.mono ?_; rintro e w2 ⟨rfl, hb2⟩
          have HB2 := Lib.hid (below_2 HBY.out hb2)
          clear hb2
          go_wp2_with fail
          go_ret
          exact ⟨ret_bool HV.out, HB2.out⟩
        · rw [Bool.true_and] at hx
          have HN := Lib.hid hx
          clear hx
          go_wp2_with fail
          refine HC.out.mono ?_; rintro e w2 ⟨rfl, hb2⟩
          have HB2 := Lib.hid (below_2 HBY.out hb2)
          clear hb2
          go_wp2_with fail
          go_roundw
          case rel => exact ⟨k + 1, by omega, by go_num, HN, HB2⟩
          case measure => simp [intOf]; omega
      · have HV : Hid (R = true) := by
          show _ = _
          rw [← HX.out, List.drop_of_length_le (by rw [HL.out]; omega), List.drop_of_length_le (by rw [HL2.out]; omega), eqEs]
        go_wp2_with fail
        go_ret
        exact ⟨ret_bool HV.out.symm, HB.out⟩
  · have b4 : ((g : Int) != (g2 : Int)) = true := bne_iff_ne.2 (by omega)
    have HV := Lib.hid (hRl h4)
    clear h4 hRl
    go_enter Try.func103, Try.ntmps103
    go_wp2_with fail
    go_ret
    exact ⟨ret_bool HV.out.symm, Below.refl _ _⟩
set_option maxHeartbeats 4000000 in
set_option maxRecDepth 100000 in
theorem oequalExprs_any : ∀ e : Ex, EqIH e := by
  refine Ex.ind (P := EqIH) ?_
  intro o n s l ih e2 a c a2 c2 hok hok2 w hK hK2
  obtain ⟨o2, n2, s2, l2⟩ := e2
  obtain ⟨_, hl, hoks⟩ := okE_open hok
  obtain ⟨_, hl2, hoks2⟩ := okE_open hok2
  have hw := below_2 (below_box w (exO (.mk o n s l) a c)) (below_box (w.alloc (exO (.mk o n s l) a c)) (exO (.mk o2 n2 s2 l2) a2 c2))
  have hbl := boxes_later (Below.refl _ ((w.alloc (exO (.mk o n s l) a c)).alloc (exO (.mk o2 n2 s2 l2) a2 c2)))
  have hC := oeqFuncE l ih l2 a c a2 c2 hoks hoks2 hl hl2 _ (Kids.below hK hw) (Kids.below hK2 hw)
  have hbs := bytes_dec s s2
  rw [eqE, ← hbs]
  have HW := Lib.hid hw
  have HC := Lib.hid hC
  simp only [exV_mk, exO_mk, op_mk, n_mk, s_mk, args_mk] at HW HC hbl ⊢
  obtain ⟨⟨x0, x1, x2, x3⟩, y0, y1, y2, y3⟩ := hbl
  rw [← Bool.beq_eq_decide_eq, ← Bool.beq_eq_decide_eq]
  generalize eqEs l l2 = R at HC ⊢
  generalize l.length = m at HC HW x3 y3 ⊢
  clear hw hC hbs ih hoks hoks2 hK hK2 hok hok2
  obtain ⟨b1, h1⟩ : ∃ b, (o == o2) = b := ⟨_, rfl⟩
  obtain ⟨b2, h2⟩ : ∃ b, (n == n2) = b := ⟨_, rfl⟩
  obtain ⟨b3, h3⟩ : ∃ b, (s.toList == s2.toList) = b := ⟨_, rfl⟩
  rw [h1, h2, h3]
  cases b1
  · go_enter Try.func88, Try.ntmps88
    go_wp2_with fail
    go_ret
    exact ⟨rfl, HW.out⟩
  cases b2
  · go_enter Try.func88, Try.ntmps88
    go_wp2_with fail
    go_ret
    exact ⟨rfl, HW.out⟩
  cases b3
  · go_enter Try.func88, Try.ntmps88
    go_wp2_with fail
    go_ret
    exact ⟨rfl, HW.out⟩
  go_enter Try.func88, Try.ntmps88
  go_wp2_with fail
  refine HC.out.mono ?_; rintro e w2 ⟨rfl, hb2⟩
  have HB2 := Lib.hid (below_2 HW.out hb2)
  clear hb2
  go_wp2_with fail
  go_ret
  exact ⟨ret_bool (by simp), HB2.out⟩
end Go.Proofs.Ytffamknoamknpaa.A
namespace Go.Proofs.Ytffamknoamknpaa.A
open Go.RowKit
open L (Str isName prt size_len below_2 below_box ret_bool ret_int eql_eq bytes_eq)

/-- a statement as a value: its cells -/
def stC (s : St) (a1 : Option Addr) (c1 : Nat) (a2 : Option Addr) (c2 : Nat) (a3 : Option Addr) (c3 : Nat) (a4 : Option Addr) (c4 : Nat) : Value :=
  .agg #[.int .i64 s.op, .string s.name, .int .i64 s.mx, .int .i64 s.a.op, .int .i64 s.a.n, .string s.a.s, .slice a1 s.a.args.length c1, .int .i64 s.b.op, .int .i64 s.b.n, .string s.b.s, .slice a2 s.b.args.length c2, .slice a3 s.body.length c3, .slice a4 s.els.length c4]
def QF (l : List St) : Prop := ∀ (l2 : List St) (a : Option Addr) (c : Nat) (a2 : Option Addr) (c2 : Nat), l.length ≤ 1000000000000000 → l2.length ≤ 1000000000000000 → okB l → okB l2 → ∀ w : World, Bodies w a l → Bodies w a2 l2 →
  Calls Try.prog 58 #[.slice a l.length c, .slice a2 l2.length c2, .func (Fn.func 59) #[] #[]] w fun e' w' => e' = .returned (.bool (eqB l l2)) ∧ Below w.heap.size w w'
set_option maxHeartbeats 8000000 in
set_option maxRecDepth 100000 in
theorem oequalStmts_any (s t : St) (q1 : QF s.body) (q2 : QF s.els) (a1 : Option Addr) (c1 : Nat) (a2 : Option Addr) (c2 : Nat) (a3 : Option Addr) (c3 : Nat) (a4 : Option Addr) (c4 : Nat) (e1 : Option Addr) (g1 : Nat) (e2 : Option Addr) (g2 : Nat) (e3 : Option Addr) (g3 : Nat) (e4 : Option Addr) (g4 : Nat)
    (ho : OkS s) (ho2 : OkS t) (w : World) (hks : StKids w s a1 a2 a3 a4) (hks2 : StKids w t e1 e2 e3 e4) :
    Calls Try.prog 59 #[stC s a1 c1 a2 c2 a3 c3 a4 c4, stC t e1 g1 e2 g2 e3 g3 e4 g4] w fun e' w' => e' = .returned (.bool (eqS s t)) ∧ Below w.heap.size w w' := by
  have hw := below_2 (below_box w (stO s a1 c1 a2 c2 a3 c3 a4 c4)) (below_box (w.alloc (stO s a1 c1 a2 c2 a3 c3 a4 c4)) (stO t e1 g1 e2 g2 e3 g3 e4 g4))
  have hA : StCells ((w.alloc (stO s a1 c1 a2 c2 a3 c3 a4 c4)).alloc (stO t e1 g1 e2 g2 e3 g3 e4 g4)) s w.heap.size 0 a1 c1 a2 c2 a3 c3 a4 c4 := (stO_cells w s a1 c1 a2 c2 a3 c3 a4 c4).below (below_box _ _)
  have hB : StCells ((w.alloc (stO s a1 c1 a2 c2 a3 c3 a4 c4)).alloc (stO t e1 g1 e2 g2 e3 g3 e4 g4)) t (w.heap.size + 1) 0 e1 g1 e2 g2 e3 g3 e4 g4 := by
    have h := stO_cells (w.alloc (stO s a1 c1 a2 c2 a3 c3 a4 c4)) t e1 g1 e2 g2 e3 g3 e4 g4
    rw [show (w.alloc (stO s a1 c1 a2 c2 a3 c3 a4 c4)).heap.size = w.heap.size + 1 by simp] at h
    exact h
  have HW := Lib.hid hw
  have HA := Lib.hid hA
  have HB := Lib.hid hB
  have HE1 := Lib.hid (fun w h h2 => oequalExprs_any s.a t.a a1 c1 e1 g1 ho.a ho2.a w h h2)
  have HE2 := Lib.hid (fun w h h2 => oequalExprs_any s.b t.b a2 c2 e2 g2 ho.b ho2.b w h h2)
  have HQ1 := Lib.hid (fun w h h2 => q1 t.body a3 c3 e3 g3 ho.bodyLen ho2.bodyLen ho.body ho2.body w h h2)
  have HQ2 := Lib.hid (fun w h h2 => q2 t.els a4 c4 e4 g4 ho.elsLen ho2.elsLen ho.els ho2.els w h h2)
  have HKs := Lib.hid (hks.below hw)
  have HKs2 := Lib.hid (hks2.below hw)
  have HBX := Lib.hid (Below.refl ((w.alloc (stO s a1 c1 a2 c2 a3 c3 a4 c4)).alloc (stO t e1 g1 e2 g2 e3 g3 e4 g4)).heap.size ((w.alloc (stO s a1 c1 a2 c2 a3 c3 a4 c4)).alloc (stO t e1 g1 e2 g2 e3 g3 e4 g4)))
  rw [eqS_parts, ← bytes_dec, ← Bool.beq_eq_decide_eq, ← Bool.beq_eq_decide_eq]
  obtain ⟨b1, h1⟩ : ∃ b, (s.op == t.op) = b := ⟨_, rfl⟩
  obtain ⟨b2, h2⟩ : ∃ b, (s.name.toList == t.name.toList) = b := ⟨_, rfl⟩
  obtain ⟨b3, h3⟩ : ∃ b, (s.mx == t.mx) = b := ⟨_, rfl⟩
  rw [h1, h2, h3]
  clear hw hA hB q1 q2 ho ho2 hks hks2
  have x0 := HA.out.k0
  have y0 := HB.out.k0
  have x1 := HA.out.k1
  have y1 := HB.out.k1
  have x2 := HA.out.k2
  have y2 := HB.out.k2
  have x3 := HA.out.k3
  have y3 := HB.out.k3
  have x4 := HA.out.k4
  have y4 := HB.out.k4
  have x5 := HA.out.k5
  have y5 := HB.out.k5
  have x6 := HA.out.k6
  have y6 := HB.out.k6
  unfold stO at *
  unfold stC
  unfold exV at *
  simp only [Nat.zero_add] at x0 y0 x1 y1 x2 y2 x3 y3 x4 y4 x5 y5 x6 y6
  go_enter Try.func59, Try.ntmps59
  go_upto_region 1 with fail
  generalize (w.alloc (.cells #[.int .i64 s.op, .string s.name, .int .i64 s.mx, .int .i64 s.a.op, .int .i64 s.a.n, .string s.a.s, .slice a1 s.a.args.length c1, .int .i64 s.b.op, .int .i64 s.b.n, .string s.b.s, .slice a2 s.b.args.length c2, .slice a3 s.body.length c3, .slice a4 s.els.length c4] 54)).alloc (.cells #[.int .i64 t.op, .string t.name, .int .i64 t.mx, .int .i64 t.a.op, .int .i64 t.a.n, .string t.a.s, .slice e1 t.a.args.length g1, .int .i64 t.b.op, .int .i64 t.b.n, .string t.b.s, .slice e2 t.b.args.length g2, .slice e3 t.body.length g3, .slice e4 t.els.length g4] 54) = w6 at *
  cases b1
  · go_wp2_with fail
    go_ret
    exact ⟨rfl, HW.out⟩
  cases b2
  · go_wp2_with fail
    go_ret
    exact ⟨rfl, HW.out⟩
  cases b3
  · go_wp2_with fail
    go_ret
    exact ⟨rfl, HW.out⟩
  generalize hz1 : eqE s.a t.a = z1 at HE1
  have HZ1 := Lib.hid hz1
  clear hz1
  go_wp2_with fail
  refine (HE1.out _ (HKs.out.below HBX.out).a (HKs2.out.below HBX.out).a).mono ?_; rintro e w71 ⟨rfl, hb7⟩
  have HBX := Lib.hid (below_2 HBX.out hb7)
  clear hb7
  clear x0 y0 x1 y1 x2 y2 x3 y3 x4 y4 x5 y5 x6 y6
  have x7 := (HA.out.below HBX.out).k7
  have y7 := (HB.out.below HBX.out).k7
  have x8 := (HA.out.below HBX.out).k8
  have y8 := (HB.out.below HBX.out).k8
  have x9 := (HA.out.below HBX.out).k9
  have y9 := (HB.out.below HBX.out).k9
  have x10 := (HA.out.below HBX.out).k10
  have y10 := (HB.out.below HBX.out).k10
  simp only [Nat.zero_add] at x7 y7 x8 y8 x9 y9 x10 y10
  cases z1
  · go_wp2_with fail
    go_ret
    exact ⟨ret_bool (by rw [HZ1.out]; simp), below_2 HW.out HBX.out⟩
  generalize hz2 : eqE s.b t.b = z2 at HE2
  have HZ2 := Lib.hid hz2
  clear hz2
  go_wp2_with fail
  refine (HE2.out _ (HKs.out.below HBX.out).b (HKs2.out.below HBX.out).b).mono ?_; rintro e w72 ⟨rfl, hb7⟩
  have HBX := Lib.hid (below_2 HBX.out hb7)
  clear hb7
  clear x7 y7 x8 y8 x9 y9 x10 y10
  have x11 := (HA.out.below HBX.out).k11
  have y11 := (HB.out.below HBX.out).k11
  simp only [Nat.zero_add] at x11 y11
  cases z2
  · go_wp2_with fail
    go_ret
    exact ⟨ret_bool (by rw [HZ1.out, HZ2.out]; simp), below_2 HW.out HBX.out⟩
  generalize hz3 : eqB s.body t.body = z3 at HQ1
  have HZ3 := Lib.hid hz3
  clear hz3
  go_wp2_with fail
  refine (HQ1.out _ (HKs.out.below HBX.out).body (HKs2.out.below HBX.out).body).mono ?_; rintro e w73 ⟨rfl, hb7⟩
  have HBX := Lib.hid (below_2 HBX.out hb7)
  clear hb7
  clear x11 y11
  have x12 := (HA.out.below HBX.out).k12
  have y12 := (HB.out.below HBX.out).k12
  simp only [Nat.zero_add] at x12 y12
  cases z3
  · go_wp2_with fail
    go_ret
    exact ⟨ret_bool (by rw [HZ1.out, HZ2.out, HZ3.out]; simp), below_2 HW.out HBX.out⟩
  generalize hz4 : eqB s.els t.els = z4 at HQ2
  have HZ4 := Lib.hid hz4
  clear hz4
  go_wp2_with fail
  refine (HQ2.out _ (HKs.out.below HBX.out).els (HKs2.out.below HBX.out).els).mono ?_; rintro e w74 ⟨rfl, hb7⟩
  have HBX := Lib.hid (below_2 HBX.out hb7)
  clear hb7
  clear x12 y12
  go_wp2_with fail
  go_ret
  exact ⟨ret_bool (by rw [HZ1.out, HZ2.out, HZ3.out, HZ4.out]; simp), below_2 HW.out HBX.out⟩
set_option maxHeartbeats 8000000 in
set_option maxRecDepth 100000 in
theorem oeqFuncS_any : ∀ l, QF l := by
  refine body_ind fun l ih => ?_
  intro l2 a c a2 c2 hl hl2 hok hok2 w hK hK2
  have HK := Lib.hid hK
  have HK2 := Lib.hid hK2
  have HIH := Lib.hid ih
  have HOK := Lib.hid hok
  have HOK2 := Lib.hid hok2
  obtain ⟨R, hR⟩ : ∃ R, eqB l l2 = R := ⟨_, rfl⟩
  rw [hR]
  have hRl := fun h => hR.symm.trans (eqB_len (l := l) (l2 := l2) h)
  have HR : Hid (eqB (l.drop 0) (l2.drop 0) = R) := hR
  obtain ⟨g, hg⟩ : ∃ g, l.length = g := ⟨_, rfl⟩
  obtain ⟨g2, hg2⟩ : ∃ g, l2.length = g := ⟨_, rfl⟩
  have HL := Lib.hid hg
  have HL2 := Lib.hid hg2
  rw [hg] at hl hRl ⊢
  rw [hg2] at hl2 hRl ⊢
  clear hK hK2 ih hok hok2 hg hg2 hR
  by_cases h4 : g = g2
  · have b4 : ((g : Int) != (g2 : Int)) = false := by rw [bne_eq_false_iff_eq]; omega
    subst h4
    clear hRl
    go_enter Try.func58, Try.ntmps58
    go_wp2_with fail
    go_loopw [17] (fun s17 wr => ∃ k : Nat, k ≤ g ∧ s17 = .int .i64 k ∧ Hid (eqB (l.drop k) (l2.drop k) = R) ∧ Hid (Below w.heap.size w wr)) (fun s17 _ => g - (intOf s17).toNat)
    case atStart => exact ⟨0, Nat.zero_le _, rfl, HR, Below.refl _ _⟩
    case round =>
      obtain ⟨k, hk, rfl, HX, HB⟩ := hrel
      by_cases hlt : k < g
      · have hlx : k < l.length := by rw [HL.out]; exact hlt
        have hly : k < l2.length := by rw [HL2.out]; exact hlt
        have hx := HX.out
        rw [drop_st hlx, drop_st hly, eqB] at hx
        obtain ⟨b2', i2, rfl, hat⟩ := (HK.out.below HB.out).open hlx
        obtain ⟨b3', i3, rfl, hat2⟩ := (HK2.out.below HB.out).open hly
        have ho := okS_open (HOK.out.get k hlx)
        have ho2 := okS_open (HOK2.out.get k hly)
        obtain ⟨q1, q2⟩ := HIH.out k hlx
        generalize l[k] = s at hat ho q1 q2 hx
        generalize l2[k] = t at hat2 ho2 hx
        obtain ⟨a1, c1, a2, c2, a3, c3, a4, c4, hcs, hks⟩ := hat.open
        obtain ⟨e1, g1, e2, g2, e3, g3, e4, g4, hcs2, hks2⟩ := hat2.open
        have hbx := below_box wr (stO s a1 c1 a2 c2 a3 c3 a4 c4)
        have hby := below_2 hbx (below_box (wr.alloc (stO s a1 c1 a2 c2 a3 c3 a4 c4)) (stO t e1 g1 e2 g2 e3 g3 e4 g4))
        obtain ⟨j0, j1, j2, j3, j4, j5, j6, j7, j8, j9, j10, j11, j12⟩ := hcs2.below hbx
        obtain ⟨k0, k1, k2, k3, k4, k5, k6, k7, k8, k9, k10, k11, k12⟩ := hcs
        have hC := oequalStmts_any s t q1 q2 a1 c1 a2 c2 a3 c3 a4 c4 e1 g1 e2 g2 e3 g3 e4 g4 ho ho2 _ (hks.below hby) (hks2.below hby)
        have HBY := Lib.hid (below_2 HB.out hby)
        clear hat hat2 hks hks2 hcs2 hbx hby q1 q2 ho ho2
        generalize eqS s t = x at hC hx
        unfold stC stO at hC
        unfold stO at HBY j0 j1 j2 j3 j4 j5 j6 j7 j8 j9 j10 j11 j12
        have HC := Lib.hid hC
        clear hC
        cases x
        · rw [Bool.false_and] at hx
          have HV := Lib.hid hx
          clear hx
          go_wp2_with fail
          refine HC.out.mono ?_; rintro e w2 ⟨rfl, hb2⟩
          have HB2 := Lib.hid (below_2 HBY.out hb2)
          clear hb2
          go_wp2_with fail
          go_ret
          exact ⟨ret_bool HV.out, HB2.out⟩
        · rw [Bool.true_and] at hx
          have HN := Lib.hid hx
          clear hx
          go_wp2_with fail
          refine HC.out.mono ?_; rintro e w2 ⟨rfl, hb2⟩
          have HB2 := Lib.hid (below_2 HBY.out hb2)
          clear hb2
          go_wp2_with fail
          go_roundw
          case rel => exact ⟨k + 1, by omega, by go_num, HN, HB2⟩
          case measure => simp [intOf]; omega
      · have HV : Hid (R = true) := by
          show _ = _
          rw [← HX.out, List.drop_of_length_le (by rw [HL.out]; omega), List.drop_of_length_le (by rw [HL2.out]; omega), eqB]
        go_wp2_with fail
        go_ret
        exact ⟨ret_bool HV.out.symm, HB.out⟩
  · have b4 : ((g : Int) != (g2 : Int)) = true := bne_iff_ne.2 (by omega)
    have HV := Lib.hid (hRl h4)
    clear h4 hRl
    go_enter Try.func58, Try.ntmps58
    go_wp2_with fail
    go_ret
    exact ⟨ret_bool HV.out.symm, Below.refl _ _⟩
end Go.Proofs.Ytffamknoamknpaa.A
