/-
  What the reference of layer 8 returns: EqualBody, Equal: contracts.
-/
import Derived.Test.YtbmdadhbkdkgmaaDoorGC
namespace Go.Proofs.YtbmdadhbkdkgmaaDoor.A
open Go.RowKit
open L (Str isName prt size_len below_2 below_box below_drew ret_bool ret_int eql_eq bytes_eq)

/-- a statement's box -/
def stO (s : St) (a1 : Option Addr) (c1 : Nat) (a2 : Option Addr) (c2 : Nat) (a3 : Option Addr) (c3 : Nat) (a4 : Option Addr) (c4 : Nat) : Obj :=
  .cells #[.int .i64 s.op, .string s.name, .int .i64 s.mx, .int .i64 s.a.op, .int .i64 s.a.n, .string s.a.s, .slice a1 s.a.args.length c1, .int .i64 s.b.op, .int .i64 s.b.n, .string s.b.s, .slice a2 s.b.args.length c2, .slice a3 s.body.length c3, .slice a4 s.els.length c4] 35
theorem stO_cells (w : World) (s : St) (a1 : Option Addr) (c1 : Nat) (a2 : Option Addr) (c2 : Nat) (a3 : Option Addr) (c3 : Nat) (a4 : Option Addr) (c4 : Nat) : StCells (w.alloc (stO s a1 c1 a2 c2 a3 c3 a4 c4)) s w.heap.size 0 a1 c1 a2 c2 a3 c3 a4 c4 := by
  unfold stO
  exact ⟨by go_simp, by go_simp, by go_simp, by go_simp, by go_simp, by go_simp, by go_simp, by go_simp, by go_simp, by go_simp, by go_simp, by go_simp, by go_simp⟩
/-- a world forgotten but for what is known of it -/
theorem then_world {K : Act → World → Prop} {Q : Exit → Act → World → Prop} {x : Exit} {a : Act} {w : World} (R : World → Prop) (hR : R w) (h : ∀ w', R w' → Exit.then K Q x a w') : Exit.then K Q x a w := h w hR
def Two (wr : World) (s t : St) (X Y : Nat) (a1 : Option Addr) (c1 : Nat) (a2 : Option Addr) (c2 : Nat) (a3 : Option Addr) (c3 : Nat) (a4 : Option Addr) (c4 : Nat) (e1 : Option Addr) (g1 : Nat) (e2 : Option Addr) (g2 : Nat) (e3 : Option Addr) (g3 : Nat) (e4 : Option Addr) (g4 : Nat) (w6 : World) : Prop :=
  StCells w6 s X 0 a1 c1 a2 c2 a3 c3 a4 c4 ∧ StCells w6 t Y 0 e1 g1 e2 g2 e3 g3 e4 g4 ∧ Below wr.heap.size wr w6
theorem box2A (wr : World) (s t : St) (a1 : Option Addr) (c1 : Nat) (a2 : Option Addr) (c2 : Nat) (a3 : Option Addr) (c3 : Nat) (a4 : Option Addr) (c4 : Nat) (e1 : Option Addr) (g1 : Nat) (e2 : Option Addr) (g2 : Nat) (e3 : Option Addr) (g3 : Nat) (e4 : Option Addr) (g4 : Nat) :
    Two wr s t wr.heap.size (wr.heap.size + 1) a1 c1 a2 c2 a3 c3 a4 c4 e1 g1 e2 g2 e3 g3 e4 g4 ((wr.alloc (stO s a1 c1 a2 c2 a3 c3 a4 c4)).alloc (stO t e1 g1 e2 g2 e3 g3 e4 g4)).drew := by
  have h1 := stO_cells wr s a1 c1 a2 c2 a3 c3 a4 c4
  have h2 := stO_cells (wr.alloc (stO s a1 c1 a2 c2 a3 c3 a4 c4)) t e1 g1 e2 g2 e3 g3 e4 g4
  have hsz : (wr.alloc (stO s a1 c1 a2 c2 a3 c3 a4 c4)).heap.size = wr.heap.size + 1 := by simp
  rw [hsz] at h2
  exact ⟨(h1.below (below_box _ _)).below (below_drew _), h2.below (below_drew _), below_2 (below_2 (below_box _ _) (below_box _ _)) (below_drew _)⟩
theorem box2B (wr : World) (s t : St) (a1 : Option Addr) (c1 : Nat) (a2 : Option Addr) (c2 : Nat) (a3 : Option Addr) (c3 : Nat) (a4 : Option Addr) (c4 : Nat) (e1 : Option Addr) (g1 : Nat) (e2 : Option Addr) (g2 : Nat) (e3 : Option Addr) (g3 : Nat) (e4 : Option Addr) (g4 : Nat) :
    Two wr s t (wr.heap.size + 1) wr.heap.size a1 c1 a2 c2 a3 c3 a4 c4 e1 g1 e2 g2 e3 g3 e4 g4 ((wr.alloc (stO t e1 g1 e2 g2 e3 g3 e4 g4)).alloc (stO s a1 c1 a2 c2 a3 c3 a4 c4)).drew := by
  obtain ⟨h1, h2, h3⟩ := box2A wr t s e1 g1 e2 g2 e3 g3 e4 g4 a1 c1 a2 c2 a3 c3 a4 c4
  exact ⟨h2, h1, h3⟩
theorem eqB_len {l l2 : List St} (h : ¬ l.length = l2.length) : eqB l l2 = false := by
  cases he : eqB l l2
  · rfl
  · rw [(eqB_iff l l2).1 he] at h; exact absurd rfl h
theorem eqS_parts (s t : St) : eqS s t = (decide (s.op = t.op) && decide (s.name = t.name) && decide (s.mx = t.mx) && eqE s.a t.a && eqE s.b t.b && eqB s.body t.body && eqB s.els t.els) := by
  obtain ⟨o, nm, mx, a, b, bd, el⟩ := s
  obtain ⟨o2, nm2, mx2, a2, b2, bd2, el2⟩ := t
  rw [eqS]; rfl
def QE (l : List St) : Prop := ∀ (l2 : List St) (a : Option Addr) (c : Nat) (a2 : Option Addr) (c2 : Nat), l.length ≤ 1000000000000000 → l2.length ≤ 1000000000000000 → okB l → okB l2 → ∀ w : World, Bodies w a l → Bodies w a2 l2 →
    Calls Tryd.prog 21 #[.slice a l.length c, .slice a2 l2.length c2] w fun e' w' => e' = .returned (.bool (eqB l l2)) ∧ Below w.heap.size w w'
set_option maxHeartbeats 8000000 in
set_option maxRecDepth 100000 in
theorem requalBody_any : ∀ l, QE l := by
  refine body_ind fun l ih => ?_
  intro l2 a c a2 c2 hl hl2 hok hok2 w hK hK2
  by_cases hlen : l.length = l2.length
  · have HKK : Hid (Bodies w a l) := hK
    have HKK2 : Hid (Bodies w a2 l2) := hK2
    have HIH := Lib.hid ih
    have HOK := Lib.hid hok
    have HOK2 := Lib.hid hok2
    obtain ⟨R, hR⟩ : ∃ R, eqB l l2 = R := ⟨_, rfl⟩
    rw [hR]
    have HR : Hid (eqB (l.drop 0) (l2.drop 0) = R) := hR
    obtain ⟨g, hg⟩ : ∃ g, l.length = g := ⟨_, rfl⟩
    have HL := Lib.hid hg
    have HL2 : Hid (l2.length = g) := hlen.symm.trans hg
    rw [← hlen, hg]
    rw [hg] at hl
    clear hg hK hK2 ih hok hok2 hR hl2 hlen
    go_enter Tryd.func21, Tryd.ntmps21
    go_wp2_with fail
    go_loopw [5] (fun s5 wr => ∃ k : Nat, k ≤ g ∧ s5 = .int .i64 k ∧ Hid (eqB (l.drop k) (l2.drop k) = R) ∧ Below w.heap.size w wr) (fun s5 _ => g - (intOf s5).toNat)
    case atStart => exact ⟨0, Nat.zero_le _, rfl, HR, Below.refl _ _⟩
    case round =>
      obtain ⟨k, hk, rfl, HX, hb⟩ := hrel
      by_cases hlt : k < g
      · have hlx : k < l.length := by rw [HL.out]; exact hlt
        have hly : k < l2.length := by rw [HL2.out]; exact hlt
        have hx := HX.out
        rw [drop_st hlx, drop_st hly, eqB, eqS_parts] at hx
        obtain ⟨b2', i2, rfl, hat⟩ := (HKK.out.below hb).open hlx
        obtain ⟨b3', i3, rfl, hat2⟩ := (HKK2.out.below hb).open hly
        have ho := okS_open (HOK.out.get k hlx)
        have ho2 := okS_open (HOK2.out.get k hly)
        obtain ⟨q1, q2⟩ := HIH.out k hlx
        generalize l[k] = s at hat ho q1 q2 hx
        generalize l2[k] = t at hat2 ho2 hx
        obtain ⟨a1, c1, a2, c2, a3, c3, a4, c4, hcs, hks⟩ := hat.open
        obtain ⟨e1, g1, e2, g2, e3, g3, e4, g4, hcs2, hks2⟩ := hat2.open
        have HE1 := Lib.hid (fun w h h2 => requalExpr_any s.a t.a a1 c1 e1 g1 ho.a ho2.a w h h2)
        have HE2 := Lib.hid (fun w h h2 => requalExpr_any s.b t.b a2 c2 e2 g2 ho.b ho2.b w h h2)
        have HQ1 := Lib.hid (fun w h h2 => q1 t.body a3 c3 e3 g3 ho.bodyLen ho2.bodyLen ho.body ho2.body w h h2)
        have HQ2 := Lib.hid (fun w h h2 => q2 t.els a4 c4 e4 g4 ho.elsLen ho2.elsLen ho.els ho2.els w h h2)
        have HKs := Lib.hid hks
        have HKs2 := Lib.hid hks2
        obtain ⟨k0, k1, k2, k3, k4, k5, k6, k7, k8, k9, k10, k11, k12⟩ := hcs
        obtain ⟨j0, j1, j2, j3, j4, j5, j6, j7, j8, j9, j10, j11, j12⟩ := hcs2
        have hlt1 := hat.lt
        have hlt2 := hat2.lt
        unfold exV at HE1 HE2
        clear hat hat2 q1 q2 ho ho2 hks hks2
        go_wp2_with fail
        go_region
        all_goals
          first
            | refine then_world _ (box2A wr s t a1 c1 a2 c2 a3 c3 a4 c4 e1 g1 e2 g2 e3 g3 e4 g4) ?_
            | refine then_world _ (box2B wr s t a1 c1 a2 c2 a3 c3 a4 c4 e1 g1 e2 g2 e3 g3 e4 g4) ?_
          rintro w6 ⟨hA, hB, hb6⟩
          have HA := Lib.hid hA
          have HB := Lib.hid hB
          have HB6 := Lib.hid hb6
          have HBX := Lib.hid (Below.refl w6.heap.size w6)
          clear hA hB hb6 k0 j0 k1 j1 k2 j2 k3 j3 k4 j4 k5 j5 k6 j6 k7 j7 k8 j8 k9 j9 k10 j10 k11 j11 k12 j12 hlt1 hlt2
          have x0 := (HA.out.below HBX.out).k0
          have y0 := (HB.out.below HBX.out).k0
          have x1 := (HA.out.below HBX.out).k1
          have y1 := (HB.out.below HBX.out).k1
          have x2 := (HA.out.below HBX.out).k2
          have y2 := (HB.out.below HBX.out).k2
          have x3 := (HA.out.below HBX.out).k3
          have y3 := (HB.out.below HBX.out).k3
          have x4 := (HA.out.below HBX.out).k4
          have y4 := (HB.out.below HBX.out).k4
          have x5 := (HA.out.below HBX.out).k5
          have y5 := (HB.out.below HBX.out).k5
          have x6 := (HA.out.below HBX.out).k6
          have y6 := (HB.out.below HBX.out).k6
          simp only [Nat.zero_add] at x0 y0 x1 y1 x2 y2 x3 y3 x4 y4 x5 y5 x6 y6
          by_cases h : ¬ s.op = t.op
          · have bo : (s.op != t.op) = true := bne_iff_ne.2 h
            rw [decide_eq_false h] at hx
            have HV : Hid (false = R) := by show _ = _; rw [← hx]; simp
            clear hx h
            go_wp2_with fail
            go_ret
            exact ⟨ret_bool HV.out, below_2 hb (below_2 HB6.out HBX.out)⟩
          have bo : (s.op != t.op) = false := by rw [bne_eq_false_iff_eq]; exact Decidable.not_not.1 h
          rw [decide_eq_true (Decidable.not_not.1 h)] at hx
          clear h
          by_cases h : ¬ s.name = t.name
          · have bn : (s.name.toList == t.name.toList) = false := by rw [bytes_dec]; exact decide_eq_false h
            rw [decide_eq_false h] at hx
            have HV : Hid (false = R) := by show _ = _; rw [← hx]; simp
            clear hx h
            go_wp2_with fail
            go_ret
            exact ⟨ret_bool HV.out, below_2 hb (below_2 HB6.out HBX.out)⟩
          have bn : (s.name.toList == t.name.toList) = true := by rw [bytes_dec]; exact decide_eq_true (Decidable.not_not.1 h)
          rw [decide_eq_true (Decidable.not_not.1 h)] at hx
          clear h
          by_cases h : ¬ s.mx = t.mx
          · have bm : (s.mx != t.mx) = true := bne_iff_ne.2 h
            rw [decide_eq_false h] at hx
            have HV : Hid (false = R) := by show _ = _; rw [← hx]; simp
            clear hx h
            go_wp2_with fail
            go_ret
            exact ⟨ret_bool HV.out, below_2 hb (below_2 HB6.out HBX.out)⟩
          have bm : (s.mx != t.mx) = false := by rw [bne_eq_false_iff_eq]; exact Decidable.not_not.1 h
          rw [decide_eq_true (Decidable.not_not.1 h)] at hx
          clear h
          generalize hz1 : eqE s.a t.a = z1 at hx
          have HZ1 := HE1.out
          rw [hz1] at HZ1
          have HY1 := Lib.hid HZ1
          clear hz1 HZ1
          cases z1
          · have HV : Hid (false = R) := by show _ = _; rw [← hx]; simp
            clear hx
            go_wp2_with fail
            refine (HY1.out _ (HKs.out.below (below_2 HB6.out HBX.out)).a (HKs2.out.below (below_2 HB6.out HBX.out)).a).mono ?_; rintro e w71 ⟨rfl, hb7⟩
            have HBX := Lib.hid (below_2 HBX.out hb7)
            clear hb7
            clear x0 y0 x1 y1 x2 y2 x3 y3 x4 y4 x5 y5 x6 y6
            go_wp2_with fail
            go_ret
            exact ⟨ret_bool HV.out, below_2 hb (below_2 HB6.out HBX.out)⟩
          go_wp2_with fail
          refine (HY1.out _ (HKs.out.below (below_2 HB6.out HBX.out)).a (HKs2.out.below (below_2 HB6.out HBX.out)).a).mono ?_; rintro e w71 ⟨rfl, hb7⟩
          have HBX := Lib.hid (below_2 HBX.out hb7)
          clear hb7
          clear x0 y0 x1 y1 x2 y2 x3 y3 x4 y4 x5 y5 x6 y6
          have x7 := (HA.out.below HBX.out).k7
          have y7 := (HB.out.below HBX.out).k7
          have x8 := (HA.out.below HBX.out).k8
          have y8 := (HB.out.below HBX.out).k8
          have x9 := (HA.out.below HBX.out).k9
          have y9 := (HB.out.below HBX.out).k9
          have x10 := (HA.out.below HBX.out).k10
          have y10 := (HB.out.below HBX.out).k10
          simp only [Nat.zero_add] at x7 y7 x8 y8 x9 y9 x10 y10
          generalize hz2 : eqE s.b t.b = z2 at hx
          have HZ2 := HE2.out
          rw [hz2] at HZ2
          have HY2 := Lib.hid HZ2
          clear hz2 HZ2
          cases z2
          · have HV : Hid (false = R) := by show _ = _; rw [← hx]; simp
            clear hx
            go_wp2_with fail
            refine (HY2.out _ (HKs.out.below (below_2 HB6.out HBX.out)).b (HKs2.out.below (below_2 HB6.out HBX.out)).b).mono ?_; rintro e w72 ⟨rfl, hb7⟩
            have HBX := Lib.hid (below_2 HBX.out hb7)
            clear hb7
            clear x7 y7 x8 y8 x9 y9 x10 y10
            go_wp2_with fail
            go_ret
            exact ⟨ret_bool HV.out, below_2 hb (below_2 HB6.out HBX.out)⟩
          go_wp2_with fail
          refine (HY2.out _ (HKs.out.below (below_2 HB6.out HBX.out)).b (HKs2.out.below (below_2 HB6.out HBX.out)).b).mono ?_; rintro e w72 ⟨rfl, hb7⟩
          have HBX := Lib.hid (below_2 HBX.out hb7)
          clear hb7
          clear x7 y7 x8 y8 x9 y9 x10 y10
          have x11 := (HA.out.below HBX.out).k11
          have y11 := (HB.out.below HBX.out).k11
          simp only [Nat.zero_add] at x11 y11
          generalize hz3 : eqB s.body t.body = z3 at hx
          have HZ3 := HQ1.out
          rw [hz3] at HZ3
          have HY3 := Lib.hid HZ3
          clear hz3 HZ3
          cases z3
          · have HV : Hid (false = R) := by show _ = _; rw [← hx]; simp
            clear hx
            go_wp2_with fail
            refine (HY3.out _ (HKs.out.below (below_2 HB6.out HBX.out)).body (HKs2.out.below (below_2 HB6.out HBX.out)).body).mono ?_; rintro e w73 ⟨rfl, hb7⟩
            have HBX := Lib.hid (below_2 HBX.out hb7)
            clear hb7
            clear x11 y11
            go_wp2_with fail
            go_ret
            exact ⟨ret_bool HV.out, below_2 hb (below_2 HB6.out HBX.out)⟩
          go_wp2_with fail
          refine (HY3.out _ (HKs.out.below (below_2 HB6.out HBX.out)).body (HKs2.out.below (below_2 HB6.out HBX.out)).body).mono ?_; rintro e w73 ⟨rfl, hb7⟩
          have HBX := Lib.hid (below_2 HBX.out hb7)
          clear hb7
          clear x11 y11
          have x12 := (HA.out.below HBX.out).k12
          have y12 := (HB.out.below HBX.out).k12
          simp only [Nat.zero_add] at x12 y12
          generalize hz4 : eqB s.els t.els = z4 at hx
          have HZ4 := HQ2.out
          rw [hz4] at HZ4
          have HY4 := Lib.hid HZ4
          clear hz4 HZ4
          cases z4
          · have HV : Hid (false = R) := by show _ = _; rw [← hx]; simp
            clear hx
            go_wp2_with fail
            refine (HY4.out _ (HKs.out.below (below_2 HB6.out HBX.out)).els (HKs2.out.below (below_2 HB6.out HBX.out)).els).mono ?_; rintro e w74 ⟨rfl, hb7⟩
            have HBX := Lib.hid (below_2 HBX.out hb7)
            clear hb7
            clear x12 y12
            go_wp2_with fail
            go_ret
            exact ⟨ret_bool HV.out, below_2 hb (below_2 HB6.out HBX.out)⟩
          go_wp2_with fail
          refine (HY4.out _ (HKs.out.below (below_2 HB6.out HBX.out)).els (HKs2.out.below (below_2 HB6.out HBX.out)).els).mono ?_; rintro e w74 ⟨rfl, hb7⟩
          have HBX := Lib.hid (below_2 HBX.out hb7)
          clear hb7
          clear x12 y12
          have HN : Hid (eqB (l.drop (k + 1)) (l2.drop (k + 1)) = R) := by show _ = _; rw [← hx]; simp
          clear hx
          go_wp2_with fail
          go_roundw
          case rel => exact ⟨k + 1, by omega, by go_num, HN, below_2 hb (below_2 HB6.out HBX.out)⟩
          case measure => simp [intOf]; omega
      · have HV : Hid (R = true) := by
          show _ = _
          rw [← HX.out, List.drop_of_length_le (by rw [HL.out]; omega), List.drop_of_length_le (by rw [HL2.out]; omega), eqB]
        go_wp2_with fail
        go_ret
        exact ⟨ret_bool HV.out.symm, hb⟩
  · have b4 : ((l.length : Int) != (l2.length : Int)) = true := bne_iff_ne.2 (by omega)
    have HV := Lib.hid (eqB_len hlen)
    clear hlen hK hK2 ih hok hok2
    go_enter Tryd.func21, Tryd.ntmps21
    go_wp2_with fail
    go_ret
    exact ⟨ret_bool HV.out.symm, Below.refl _ _⟩
end Go.Proofs.YtbmdadhbkdkgmaaDoor.A
