/-
  What the reference of layer 8 returns: EqualBody, Equal: contracts.
  What the program's functions of layer 8 return: equalExprs, slices.EqualFunc of expressions: contracts.
  What the program's functions of layer 8 return: equalStmts, slices.EqualFunc of statements: contracts.
  What the reference of layer 8 returns: Validate: a contract (over stmt's).
  What the program's function copiedExpr of layer 8 returns: contracts, one a function value.
-/
import Derived.Test.YteglaeopaocilaaGreatDoorM15
import Derived.Test.YteglaeopaocilaaGreatDoorM13
import Derived.Deep.Cut
import Derived.Deep.RegionLaw
import Derived.BigQuiet
import Derived.Laws.OwnMore
namespace Go.Proofs.YteglaeopaocilaaGreatDoor.A
open Go.RowKit
open L (Str isName prt size_len below_2 below_box below_drew ret_bool ret_int eql_eq bytes_eq)

/-- a statement's box -/
def stO (s : St) (a1 : Option Addr) (c1 : Nat) (a2 : Option Addr) (c2 : Nat) (a3 : Option Addr) (c3 : Nat) (a4 : Option Addr) (c4 : Nat) : Obj :=
  .cells #[.int .i64 s.op, .string s.name, .int .i64 s.mx, .int .i64 s.a.op, .int .i64 s.a.n, .string s.a.s, .slice a1 s.a.args.length c1, .int .i64 s.b.op, .int .i64 s.b.n, .string s.b.s, .slice a2 s.b.args.length c2, .slice a3 s.body.length c3, .slice a4 s.els.length c4] 76
theorem stO_cells (w : World) (s : St) (a1 : Option Addr) (c1 : Nat) (a2 : Option Addr) (c2 : Nat) (a3 : Option Addr) (c3 : Nat) (a4 : Option Addr) (c4 : Nat) : StCells (w.alloc (stO s a1 c1 a2 c2 a3 c3 a4 c4)) s w.heap.size 0 a1 c1 a2 c2 a3 c3 a4 c4 := by
  unfold stO
  exact ⟨by go_simp, by go_simp, by go_simp, by go_simp, by go_simp, by go_simp, by go_simp, by go_simp, by go_simp, by go_simp, by go_simp, by go_simp, by go_simp⟩
/-- a world forgotten but for what is known of it -/
theorem then_world {K : Act → World → Prop} {Q : Exit → Act → World → Prop} {x : Exit} {a : Act} {w : World} (R : World → Prop) (hR : R w) (h : ∀ w', R w' → Exit.then K Q x a w') : Exit.then K Q x a w := h w hR
def Two (wr : World) (s t : St) (X Y : Nat) (a1 : Option Addr) (c1 : Nat) (a2 : Option Addr) (c2 : Nat) (a3 : Option Addr) (c3 : Nat) (a4 : Option Addr) (c4 : Nat) (e1 : Option Addr) (g1 : Nat) (e2 : Option Addr) (g2 : Nat) (e3 : Option Addr) (g3 : Nat) (e4 : Option Addr) (g4 : Nat) (w6 : World) : Prop :=
  StCells w6 s X 0 a1 c1 a2 c2 a3 c3 a4 c4 ∧ StCells w6 t Y 0 e1 g1 e2 g2 e3 g3 e4 g4 ∧ Below wr.heap.size wr w6
theorem box2A (wr : World) (s t : St) (a1 : Option Addr) (c1 : Nat) (a2 : Option Addr) (c2 : Nat) (a3 : Option Addr) (c3 : Nat) (a4 : Option Addr) (c4 : Nat) (e1 : Option Addr) (g1 : Nat) (e2 : Option Addr) (g2 : Nat) (e3 : Option Addr) (g3 : Nat) (e4 : Option Addr) (g4 : Nat) :
    Two wr s t wr.heap.size (wr.heap.size + 1) a1 c1 a2 c2 a3 c3 a4 c4 e1 g1 e2 g2 e3 g3 e4 g4 ((wr.alloc (stO s a1 c1 a2 c2 a3 c3 a4 c4)).alloc (stO t e1 g1 e2 g2 e3 g3 e4 g4)).drew := by
  have h1 := stO_cells wr s a1 c1 a2 c2 a3 c3 a4 c4
  have h2 := stO_cells (wr.alloc (stO s a1 c1 a2 c2 a3 c3 a4 c4)) t e1 g1 e2 g2 e3 g3 e4 g4
  have hsz : (wr.alloc (stO s a1 c1 a2 c2 a3 c3 a4 c4)).heap.size = wr.heap.size + 1 := by simp
  rw [hsz] at h2
  exact ⟨(h1.below (below_box _ _)).below (below_drew _), h2.below (below_drew _), below_2 (below_2 (below_box _ _) (below_box _ _)) (below_drew _)⟩
theorem box2B (wr : World) (s t : St) (a1 : Option Addr) (c1 : Nat) (a2 : Option Addr) (c2 : Nat) (a3 : Option Addr) (c3 : Nat) (a4 : Option Addr) (c4 : Nat) (e1 : Option Addr) (g1 : Nat) (e2 : Option Addr) (g2 : Nat) (e3 : Option Addr) (g3 : Nat) (e4 : Option Addr) (g4 : Nat) :
    Two wr s t (wr.heap.size + 1) wr.heap.size a1 c1 a2 c2 a3 c3 a4 c4 e1 g1 e2 g2 e3 g3 e4 g4 ((wr.alloc (stO t e1 g1 e2 g2 e3 g3 e4 g4)).alloc (stO s a1 c1 a2 c2 a3 c3 a4 c4)).drew := by
  obtain ⟨h1, h2, h3⟩ := box2A wr t s e1 g1 e2 g2 e3 g3 e4 g4 a1 c1 a2 c2 a3 c3 a4 c4
  exact ⟨h2, h1, h3⟩
theorem eqB_len {l l2 : List St} (h : ¬ l.length = l2.length) : eqB l l2 = false := by
  cases he : eqB l l2
  · rfl
  · rw [(eqB_iff l l2).1 he] at h; exact absurd rfl h
theorem eqS_parts (s t : St) : eqS s t = (decide (s.op = t.op) && decide (s.name = t.name) && decide (s.mx = t.mx) && eqE s.a t.a && eqE s.b t.b && eqB s.body t.body && eqB s.els t.els) := by
  obtain ⟨o, nm, mx, a, b, bd, el⟩ := s
  obtain ⟨o2, nm2, mx2, a2, b2, bd2, el2⟩ := t
  rw [eqS]; rfl
def QE (l : List St) : Prop := ∀ (l2 : List St) (a : Option Addr) (c : Nat) (a2 : Option Addr) (c2 : Nat), l.length ≤ 1000000000000000 → l2.length ≤ 1000000000000000 → okB l → okB l2 → ∀ w : World, Bodies w a l → Bodies w a2 l2 →
    Calls Tryz.prog 52 #[.slice a l.length c, .slice a2 l2.length c2] w fun e' w' => e' = .returned (.bool (eqB l l2)) ∧ Below w.heap.size w w'
set_option maxHeartbeats 8000000 in
set_option maxRecDepth 100000 in
theorem requalBody_any : ∀ l, QE l := by
  refine body_ind fun l ih => ?_
  intro l2 a c a2 c2 hl hl2 hok hok2 w hK hK2
  by_cases hlen : l.length = l2.length
  · have HKK : Hid (Bodies w a l) := hK
    have HKK2 : Hid (Bodies w a2 l2) := hK2
    have HIH := Lib.hid ih
    have HOK := Lib.hid hok
    have HOK2 := Lib.hid hok2
    obtain ⟨R, hR⟩ : ∃ R, eqB l l2 = R := ⟨_, rfl⟩
    rw [hR]
    have HR : Hid (eqB (l.drop 0) (l2.drop 0) = R) := hR
    obtain ⟨g, hg⟩ : ∃ g, l.length = g := ⟨_, rfl⟩
    have HL := Lib.hid hg
    have HL2 : Hid (l2.length = g) := hlen.symm.trans hg
    rw [← hlen, hg]
    rw [hg] at hl
    clear hg hK hK2 ih hok hok2 hR hl2 hlen
    go_enter Tryz.func52, Tryz.ntmps52
    go_wp2_with fail
    go_loopw [5] (fun s5 wr => ∃ k : Nat, k ≤ g ∧ s5 = .int .i64 k ∧ Hid (eqB (l.drop k) (l2.drop k) = R) ∧ Below w.heap.size w wr) (fun s5 _ => g - (intOf s5).toNat)
    case atStart => exact ⟨0, Nat.zero_le _, rfl, HR, Below.refl _ _⟩
    case round =>
      obtain ⟨k, hk, rfl, HX, hb⟩ := hrel
      by_cases hlt : k < g
      · have hlx : k < l.length := by rw [HL.out]; exact hlt
        have hly : k < l2.length := by rw [HL2.out]; exact hlt
        have hx := HX.out
        rw [drop_st hlx, drop_st hly, eqB, eqS_parts] at hx
        obtain ⟨b2', i2, rfl, hat⟩ := (HKK.out.below hb).open hlx
        obtain ⟨b3', i3, rfl, hat2⟩ := (HKK2.out.below hb).open hly
        have ho := okS_open (HOK.out.get k hlx)
        have ho2 := okS_open (HOK2.out.get k hly)
        obtain ⟨q1, q2⟩ := HIH.out k hlx
        generalize l[k] = s at hat ho q1 q2 hx
        generalize l2[k] = t at hat2 ho2 hx
        obtain ⟨a1, c1, a2, c2, a3, c3, a4, c4, hcs, hks⟩ := hat.open
        obtain ⟨e1, g1, e2, g2, e3, g3, e4, g4, hcs2, hks2⟩ := hat2.open
        have HE1 := Lib.hid (fun w h h2 => requalExpr_any s.a t.a a1 c1 e1 g1 ho.a ho2.a w h h2)
        have HE2 := Lib.hid (fun w h h2 => requalExpr_any s.b t.b a2 c2 e2 g2 ho.b ho2.b w h h2)
        have HQ1 := Lib.hid (fun w h h2 => q1 t.body a3 c3 e3 g3 ho.bodyLen ho2.bodyLen ho.body ho2.body w h h2)
        have HQ2 := Lib.hid (fun w h h2 => q2 t.els a4 c4 e4 g4 ho.elsLen ho2.elsLen ho.els ho2.els w h h2)
        have HKs := Lib.hid hks
        have HKs2 := Lib.hid hks2
        obtain ⟨k0, k1, k2, k3, k4, k5, k6, k7, k8, k9, k10, k11, k12⟩ := hcs
        obtain ⟨j0, j1, j2, j3, j4, j5, j6, j7, j8, j9, j10, j11, j12⟩ := hcs2
        have hlt1 := hat.lt
        have hlt2 := hat2.lt
        unfold exV at HE1 HE2
        clear hat hat2 q1 q2 ho ho2 hks hks2
        go_wp2_with fail
        go_region
        all_goals
          first
            | refine then_world _ (box2A wr s t a1 c1 a2 c2 a3 c3 a4 c4 e1 g1 e2 g2 e3 g3 e4 g4) ?_
            | refine then_world _ (box2B wr s t a1 c1 a2 c2 a3 c3 a4 c4 e1 g1 e2 g2 e3 g3 e4 g4) ?_
          rintro w6 ⟨hA, hB, hb6⟩
          have HA := Lib.hid hA
          have HB := Lib.hid hB
          have HB6 := Lib.hid hb6
          have HBX := Lib.hid (Below.refl w6.heap.size w6)
          clear hA hB hb6 k0 j0 k1 j1 k2 j2 k3 j3 k4 j4 k5 j5 k6 j6 k7 j7 k8 j8 k9 j9 k10 j10 k11 j11 k12 j12 hlt1 hlt2
          have x0 := (HA.out.below HBX.out).k0
          have y0 := (HB.out.below HBX.out).k0
          have x1 := (HA.out.below HBX.out).k1
          have y1 := (HB.out.below HBX.out).k1
          have x2 := (HA.out.below HBX.out).k2
          have y2 := (HB.out.below HBX.out).k2
          have x3 := (HA.out.below HBX.out).k3
          have y3 := (HB.out.below HBX.out).k3
          have x4 := (HA.out.below HBX.out).k4
          have y4 := (HB.out.below HBX.out).k4
          have x5 := (HA.out.below HBX.out).k5
          have y5 := (HB.out.below HBX.out).k5
          have x6 := (HA.out.below HBX.out).k6
          have y6 := (HB.out.below HBX.out).k6
          simp only [Nat.zero_add] at x0 y0 x1 y1 x2 y2 x3 y3 x4 y4 x5 y5 x6 y6
          by_cases h : ¬ s.op = t.op
          · have bo : (s.op != t.op) = true := bne_iff_ne.2 h
            rw [decide_eq_false h] at hx
            have HV : Hid (false = R) := by show _ = _; rw [← hx]; simp
            clear hx h
            go_wp2_with fail
            go_ret
            exact ⟨ret_bool HV.out, below_2 hb (below_2 HB6.out HBX.out)⟩
          have bo : (s.op != t.op) = false := by rw [bne_eq_false_iff_eq]; exact Decidable.not_not.1 h
          rw [decide_eq_true (Decidable.not_not.1 h)] at hx
          clear h
          by_cases h : ¬ s.name = t.name
          · have bn : (s.name.toList == t.name.toList) = false := by rw [bytes_dec]; exact decide_eq_false h
            rw [decide_eq_false h] at hx
            have HV : Hid (false = R) := by show _ = _; rw [← hx]; simp
            clear hx h
            go_wp2_with fail
            go_ret
            exact ⟨ret_bool HV.out, below_2 hb (below_2 HB6.out HBX.out)⟩
          have bn : (s.name.toList == t.name.toList) = true := by rw [bytes_dec]; exact decide_eq_true (Decidable.not_not.1 h)
          rw [decide_eq_true (Decidable.not_not.1 h)] at hx
          clear h
          by_cases h : ¬ s.mx = t.mx
          · have bm : (s.mx != t.mx) = true := bne_iff_ne.2 h
            rw [decide_eq_false h] at hx
            have HV : Hid (false = R) := by show _ = _; rw [← hx]; simp
            clear hx h
            go_wp2_with fail
            go_ret
            exact ⟨ret_bool HV.out, below_2 hb (below_2 HB6.out HBX.out)⟩
          have bm : (s.mx != t.mx) = false := by rw [bne_eq_false_iff_eq]; exact Decidable.not_not.1 h
          rw [decide_eq_true (Decidable.not_not.1 h)] at hx
          clear h
          generalize hz1 : eqE s.a t.a = z1 at hx
          have HZ1 := HE1.out
          rw [hz1] at HZ1
          have HY1 := Lib.hid HZ1
          clear hz1 HZ1
          cases z1
          · have HV : Hid (false = R) := by show _ = _; rw [← hx]; simp
            clear hx
            go_wp2_with fail
            refine (HY1.out _ (HKs.out.below (below_2 HB6.out HBX.out)).a (HKs2.out.below (below_2 HB6.out HBX.out)).a).mono ?_; rintro e w71 ⟨rfl, hb7⟩
            have HBX := Lib.hid (below_2 HBX.out hb7)
            clear hb7
            clear x0 y0 x1 y1 x2 y2 x3 y3 x4 y4 x5 y5 x6 y6
            go_wp2_with fail
            go_ret
            exact ⟨ret_bool HV.out, below_2 hb (below_2 HB6.out HBX.out)⟩
          go_wp2_with fail
          refine (HY1.out _ (HKs.out.below (below_2 HB6.out HBX.out)).a (HKs2.out.below (below_2 HB6.out HBX.out)).a).mono ?_; rintro e w71 ⟨rfl, hb7⟩
          have HBX := Lib.hid (below_2 HBX.out hb7)
          clear hb7
          clear x0 y0 x1 y1 x2 y2 x3 y3 x4 y4 x5 y5 x6 y6
          have x7 := (HA.out.below HBX.out).k7
          have y7 := (HB.out.below HBX.out).k7
          have x8 := (HA.out.below HBX.out).k8
          have y8 := (HB.out.below HBX.out).k8
          have x9 := (HA.out.below HBX.out).k9
          have y9 := (HB.out.below HBX.out).k9
          have x10 := (HA.out.below HBX.out).k10
          have y10 := (HB.out.below HBX.out).k10
          simp only [Nat.zero_add] at x7 y7 x8 y8 x9 y9 x10 y10
          generalize hz2 : eqE s.b t.b = z2 at hx
          have HZ2 := HE2.out
          rw [hz2] at HZ2
          have HY2 := Lib.hid HZ2
          clear hz2 HZ2
          cases z2
          · have HV : Hid (false = R) := by show _ = _; rw [← hx]; simp
            clear hx
            go_wp2_with fail
            refine (HY2.out _ (HKs.out.below (below_2 HB6.out HBX.out)).b (HKs2.out.below (below_2 HB6.out HBX.out)).b).mono ?_; rintro e w72 ⟨rfl, hb7⟩
            have HBX := Lib.hid (below_2 HBX.out hb7)
            clear hb7
            clear x7 y7 x8 y8 x9 y9 x10 y10
            go_wp2_with fail
            go_ret
            exact ⟨ret_bool HV.out, below_2 hb (below_2 HB6.out HBX.out)⟩
          go_wp2_with fail
          refine (HY2.out _ (HKs.out.below (below_2 HB6.out HBX.out)).b (HKs2.out.below (below_2 HB6.out HBX.out)).b).mono ?_; rintro e w72 ⟨rfl, hb7⟩
          have HBX := Lib.hid (below_2 HBX.out hb7)
          clear hb7
          clear x7 y7 x8 y8 x9 y9 x10 y10
          have x11 := (HA.out.below HBX.out).k11
          have y11 := (HB.out.below HBX.out).k11
          simp only [Nat.zero_add] at x11 y11
          generalize hz3 : eqB s.body t.body = z3 at hx
          have HZ3 := HQ1.out
          rw [hz3] at HZ3
          have HY3 := Lib.hid HZ3
          clear hz3 HZ3
          cases z3
          · have HV : Hid (false = R) := by show _ = _; rw [← hx]; simp
            clear hx
            go_wp2_with fail
            refine (HY3.out _ (HKs.out.below (below_2 HB6.out HBX.out)).body (HKs2.out.below (below_2 HB6.out HBX.out)).body).mono ?_; rintro e w73 ⟨rfl, hb7⟩
            have HBX := Lib.hid (below_2 HBX.out hb7)
            clear hb7
            clear x11 y11
            go_wp2_with fail
            go_ret
            exact ⟨ret_bool HV.out, below_2 hb (below_2 HB6.out HBX.out)⟩
          go_wp2_with fail
          refine (HY3.out _ (HKs.out.below (below_2 HB6.out HBX.out)).body (HKs2.out.below (below_2 HB6.out HBX.out)).body).mono ?_; rintro e w73 ⟨rfl, hb7⟩
          have HBX := Lib.hid (below_2 HBX.out hb7)
          clear hb7
          clear x11 y11
          have x12 := (HA.out.below HBX.out).k12
          have y12 := (HB.out.below HBX.out).k12
          simp only [Nat.zero_add] at x12 y12
          generalize hz4 : eqB s.els t.els = z4 at hx
          have HZ4 := HQ2.out
          rw [hz4] at HZ4
          have HY4 := Lib.hid HZ4
          clear hz4 HZ4
          cases z4
          · have HV : Hid (false = R) := by show _ = _; rw [← hx]; simp
            clear hx
            go_wp2_with fail
            refine (HY4.out _ (HKs.out.below (below_2 HB6.out HBX.out)).els (HKs2.out.below (below_2 HB6.out HBX.out)).els).mono ?_; rintro e w74 ⟨rfl, hb7⟩
            have HBX := Lib.hid (below_2 HBX.out hb7)
            clear hb7
            clear x12 y12
            go_wp2_with fail
            go_ret
            exact ⟨ret_bool HV.out, below_2 hb (below_2 HB6.out HBX.out)⟩
          go_wp2_with fail
          refine (HY4.out _ (HKs.out.below (below_2 HB6.out HBX.out)).els (HKs2.out.below (below_2 HB6.out HBX.out)).els).mono ?_; rintro e w74 ⟨rfl, hb7⟩
          have HBX := Lib.hid (below_2 HBX.out hb7)
          clear hb7
          clear x12 y12
          have HN : Hid (eqB (l.drop (k + 1)) (l2.drop (k + 1)) = R) := by show _ = _; rw [← hx]; simp
          clear hx
          go_wp2_with fail
          go_roundw
          case rel => exact ⟨k + 1, by omega, by go_num, HN, below_2 hb (below_2 HB6.out HBX.out)⟩
          case measure => simp [intOf]; omega
      · have HV : Hid (R = true) := by
          show _ = _
          rw [← HX.out, List.drop_of_length_le (by rw [HL.out]; omega), List.drop_of_length_le (by rw [HL2.out]; omega), eqB]
        go_wp2_with fail
        go_ret
        exact ⟨ret_bool HV.out.symm, hb⟩
  · have b4 : ((l.length : Int) != (l2.length : Int)) = true := bne_iff_ne.2 (by omega)
    have HV := Lib.hid (eqB_len hlen)
    clear hlen hK hK2 ih hok hok2
    go_enter Tryz.func52, Tryz.ntmps52
    go_wp2_with fail
    go_ret
    exact ⟨ret_bool HV.out.symm, Below.refl _ _⟩
end Go.Proofs.YteglaeopaocilaaGreatDoor.A
namespace Go.Proofs.YteglaeopaocilaaGreatDoor.A
open Go.RowKit
open L (Str isName prt size_len below_2 below_box ret_bool ret_int eql_eq bytes_eq)

def EqIH (e : Ex) : Prop := ∀ (e2 : Ex) (a : Option Addr) (c : Nat) (a2 : Option Addr) (c2 : Nat), okE e → okE e2 → ∀ w : World, Kids w a e.args → Kids w a2 e2.args →
  Calls Tryz.prog 86 #[exV e a c, exV e2 a2 c2] w fun e' w' => e' = .returned (.bool (eqE e e2)) ∧ Below w.heap.size w w'
set_option maxHeartbeats 4000000 in
set_option maxRecDepth 100000 in
theorem oeqFuncE (l : List Ex) (ih : ∀ j (h : j < l.length), EqIH l[j]) (l2 : List Ex) (a : Option Addr) (c : Nat) (a2 : Option Addr) (c2 : Nat) (hok : okEs l) (hok2 : okEs l2) (hl : l.length ≤ 1000000000000000) (hl2 : l2.length ≤ 1000000000000000) (w : World) (hK : Kids w a l) (hK2 : Kids w a2 l2) :
    Calls Tryz.prog 139 #[.slice a l.length c, .slice a2 l2.length c2, .func (Fn.func 86) #[] #[]] w fun e' w' => e' = .returned (.bool (eqEs l l2)) ∧ Below w.heap.size w w' := by
  have HK := Lib.hid hK
  have HK2 := Lib.hid hK2
  have HIH := Lib.hid ih
  have HOK := Lib.hid hok
  have HOK2 := Lib.hid hok2
  obtain ⟨R, hR⟩ : ∃ R, eqEs l l2 = R := ⟨_, rfl⟩
  rw [hR]
  have hRl := fun h => hR.symm.trans (eqEs_len (l := l) (l2 := l2) h)
  have HR : Hid (eqEs (l.drop 0) (l2.drop 0) = R) := hR
  obtain ⟨g, hg⟩ : ∃ g, l.length = g := ⟨_, rfl⟩
  obtain ⟨g2, hg2⟩ : ∃ g, l2.length = g := ⟨_, rfl⟩
  have HL := Lib.hid hg
  have HL2 := Lib.hid hg2
  rw [hg] at hl hRl ⊢
  rw [hg2] at hl2 hRl ⊢
  clear hK hK2 ih hok hok2 hg hg2 hR
  by_cases h4 : g = g2
  · have b4 : ((g : Int) != (g2 : Int)) = false := by rw [bne_eq_false_iff_eq]; omega
    subst h4
    clear hRl
    go_enter Tryz.func139, Tryz.ntmps139
    go_wp2_with fail
    go_loopw [17] (fun s17 wr => ∃ k : Nat, k ≤ g ∧ s17 = .int .i64 k ∧ Hid (eqEs (l.drop k) (l2.drop k) = R) ∧ Hid (Below w.heap.size w wr)) (fun s17 _ => g - (intOf s17).toNat)
    case atStart => exact ⟨0, Nat.zero_le _, rfl, HR, Below.refl _ _⟩
    case round =>
      obtain ⟨k, hk, rfl, HX, HB⟩ := hrel
      by_cases hlt : k < g
      · have hlx : k < l.length := by rw [HL.out]; exact hlt
        have hly : k < l2.length := by rw [HL2.out]; exact hlt
        have hx := HX.out
        rw [drop_ex hlx, drop_ex hly, eqEs] at hx
        obtain ⟨b2', i2, rfl, hat⟩ := (HK.out.below HB.out).open hlx
        obtain ⟨b3', i3, rfl, hat2⟩ := (HK2.out.below HB.out).open hly
        obtain ⟨d0, d1, d2, a4, c4, d3, hk4⟩ := hat.open
        obtain ⟨f0, f1, f2, a5, c5, f3, hk5⟩ := hat2.open
        have hbx := below_box wr (exO l[k] a4 c4)
        have hby := below_2 hbx (below_box (wr.alloc (exO l[k] a4 c4)) (exO l2[k] a5 c5))
        have hlt2 := hat2.lt
        have f0' := (hbx.cell hlt2).trans f0
        have f1' := (hbx.cell hlt2).trans f1
        have f2' := (hbx.cell hlt2).trans f2
        have f3' := (hbx.cell hlt2).trans f3
        have hC := HIH.out k hlx l2[k] a4 c4 a5 c5 (HOK.out.get k hlx) (HOK2.out.get k hly) _ (hk4.below hby) (hk5.below hby)
        have HBY := Lib.hid (below_2 HB.out hby)
        clear hat hat2 hk4 hk5 hbx hby hlt2
        generalize eqE l[k] l2[k] = x at hC hx
        unfold exV exO at hC
        unfold exO at f0' f1' f2' f3' HBY
        have HC := Lib.hid hC
        clear hC
        generalize l[k].args.length = m2 at *
        generalize l[k].op = p0 at *
        generalize l[k].n = p1 at *
        generalize l[k].s = p2 at *
        generalize l2[k].args.length = m3 at *
        generalize l2[k].op = q0 at *
        generalize l2[k].n = q1 at *
        generalize l2[k].s = q2 at *
        cases x
        · rw [Bool.false_and] at hx
          have HV := Lib.hid hx
          clear hx
          go_wp2_with fail
          refine HC.out.mono ?_; rintro e w2 ⟨rfl, hb2⟩
          have HB2 := Lib.hid (below_2 HBY.out hb2)
          clear hb2
          go_wp2_with fail
          go_ret
          exact ⟨ret_bool HV.out, HB2.out⟩
        · rw [Bool.true_and] at hx
          have HN := Lib.hid hx
          clear hx
          go_wp2_with fail
          refine HC.out.mono ?_; rintro e w2 ⟨rfl, hb2⟩
          have HB2 := Lib.hid (below_2 HBY.out hb2)
          clear hb2
          go_wp2_with fail
          go_roundw
          case rel => exact ⟨k + 1, by omega, by go_num, HN, HB2⟩
          case measure => simp [intOf]; omega
      · have HV : Hid (R = true) := by
          show _ = _
          rw [← HX.out, List.drop_of_length_le (by rw [HL.out]; omega), List.drop_of_length_le (by rw [HL2.out]; omega), eqEs]
        go_wp2_with fail
        go_ret
        exact ⟨ret_bool HV.out.symm, HB.out⟩
  · have b4 : ((g : Int) != (g2 : Int)) = true := bne_iff_ne.2 (by omega)
    have HV := Lib.hid (hRl h4)
    clear h4 hRl
    go_enter Tryz.func139, Tryz.ntmps139
    go_wp2_with fail
    go_ret
    exact ⟨ret_bool HV.out.symm, Below.refl _ _⟩
set_option maxHeartbeats 4000000 in
set_option maxRecDepth 100000 in
theorem oequalExprs_any : ∀ e : Ex, EqIH e := by
  refine Ex.ind (P := EqIH) ?_
  intro o n s l ih e2 a c a2 c2 hok hok2 w hK hK2
  obtain ⟨o2, n2, s2, l2⟩ := e2
  obtain ⟨_, hl, hoks⟩ := okE_open hok
  obtain ⟨_, hl2, hoks2⟩ := okE_open hok2
  have hw := below_2 (below_box w (exO (.mk o n s l) a c)) (below_box (w.alloc (exO (.mk o n s l) a c)) (exO (.mk o2 n2 s2 l2) a2 c2))
  have hbl := boxes_later (Below.refl _ ((w.alloc (exO (.mk o n s l) a c)).alloc (exO (.mk o2 n2 s2 l2) a2 c2)))
  have hC := oeqFuncE l ih l2 a c a2 c2 hoks hoks2 hl hl2 _ (Kids.below hK hw) (Kids.below hK2 hw)
  have hbs := bytes_dec s s2
  rw [eqE, ← hbs]
  have HW := Lib.hid hw
  have HC := Lib.hid hC
  simp only [exV_mk, exO_mk, op_mk, n_mk, s_mk, args_mk] at HW HC hbl ⊢
  obtain ⟨⟨x0, x1, x2, x3⟩, y0, y1, y2, y3⟩ := hbl
  rw [← Bool.beq_eq_decide_eq, ← Bool.beq_eq_decide_eq]
  generalize eqEs l l2 = R at HC ⊢
  generalize l.length = m at HC HW x3 y3 ⊢
  clear hw hC hbs ih hoks hoks2 hK hK2 hok hok2
  obtain ⟨b1, h1⟩ : ∃ b, (o == o2) = b := ⟨_, rfl⟩
  obtain ⟨b2, h2⟩ : ∃ b, (n == n2) = b := ⟨_, rfl⟩
  obtain ⟨b3, h3⟩ : ∃ b, (s.toList == s2.toList) = b := ⟨_, rfl⟩
  rw [h1, h2, h3]
  cases b1
  · go_enter Tryz.func86, Tryz.ntmps86
    go_wp2_with fail
    go_ret
    exact ⟨rfl, HW.out⟩
  cases b2
  · go_enter Tryz.func86, Tryz.ntmps86
    go_wp2_with fail
    go_ret
    exact ⟨rfl, HW.out⟩
  cases b3
  · go_enter Tryz.func86, Tryz.ntmps86
    go_wp2_with fail
    go_ret
    exact ⟨rfl, HW.out⟩
  go_enter Tryz.func86, Tryz.ntmps86
  go_wp2_with fail
  refine HC.out.mono ?_; rintro e w2 ⟨rfl, hb2⟩
  have HB2 := Lib.hid (below_2 HW.out hb2)
  clear hb2
  go_wp2_with fail
  go_ret
  exact ⟨ret_bool (by simp), HB2.out⟩
end Go.Proofs.YteglaeopaocilaaGreatDoor.A
namespace Go.Proofs.YteglaeopaocilaaGreatDoor.A
open Go.RowKit
open L (Str isName prt size_len below_2 below_box ret_bool ret_int eql_eq bytes_eq)

/-- a statement as a value: its cells -/
def stC (s : St) (a1 : Option Addr) (c1 : Nat) (a2 : Option Addr) (c2 : Nat) (a3 : Option Addr) (c3 : Nat) (a4 : Option Addr) (c4 : Nat) : Value :=
  .agg #[.int .i64 s.op, .string s.name, .int .i64 s.mx, .int .i64 s.a.op, .int .i64 s.a.n, .string s.a.s, .slice a1 s.a.args.length c1, .int .i64 s.b.op, .int .i64 s.b.n, .string s.b.s, .slice a2 s.b.args.length c2, .slice a3 s.body.length c3, .slice a4 s.els.length c4]
def QF (l : List St) : Prop := ∀ (l2 : List St) (a : Option Addr) (c : Nat) (a2 : Option Addr) (c2 : Nat), l.length ≤ 1000000000000000 → l2.length ≤ 1000000000000000 → okB l → okB l2 → ∀ w : World, Bodies w a l → Bodies w a2 l2 →
  Calls Tryz.prog 41 #[.slice a l.length c, .slice a2 l2.length c2, .func (Fn.func 42) #[] #[]] w fun e' w' => e' = .returned (.bool (eqB l l2)) ∧ Below w.heap.size w w'
set_option maxHeartbeats 8000000 in
set_option maxRecDepth 100000 in
theorem oequalStmts_any (s t : St) (q1 : QF s.body) (q2 : QF s.els) (a1 : Option Addr) (c1 : Nat) (a2 : Option Addr) (c2 : Nat) (a3 : Option Addr) (c3 : Nat) (a4 : Option Addr) (c4 : Nat) (e1 : Option Addr) (g1 : Nat) (e2 : Option Addr) (g2 : Nat) (e3 : Option Addr) (g3 : Nat) (e4 : Option Addr) (g4 : Nat)
    (ho : OkS s) (ho2 : OkS t) (w : World) (hks : StKids w s a1 a2 a3 a4) (hks2 : StKids w t e1 e2 e3 e4) :
    Calls Tryz.prog 42 #[stC s a1 c1 a2 c2 a3 c3 a4 c4, stC t e1 g1 e2 g2 e3 g3 e4 g4] w fun e' w' => e' = .returned (.bool (eqS s t)) ∧ Below w.heap.size w w' := by
  have hw := below_2 (below_box w (stO s a1 c1 a2 c2 a3 c3 a4 c4)) (below_box (w.alloc (stO s a1 c1 a2 c2 a3 c3 a4 c4)) (stO t e1 g1 e2 g2 e3 g3 e4 g4))
  have hA : StCells ((w.alloc (stO s a1 c1 a2 c2 a3 c3 a4 c4)).alloc (stO t e1 g1 e2 g2 e3 g3 e4 g4)) s w.heap.size 0 a1 c1 a2 c2 a3 c3 a4 c4 := (stO_cells w s a1 c1 a2 c2 a3 c3 a4 c4).below (below_box _ _)
  have hB : StCells ((w.alloc (stO s a1 c1 a2 c2 a3 c3 a4 c4)).alloc (stO t e1 g1 e2 g2 e3 g3 e4 g4)) t (w.heap.size + 1) 0 e1 g1 e2 g2 e3 g3 e4 g4 := by
    have h := stO_cells (w.alloc (stO s a1 c1 a2 c2 a3 c3 a4 c4)) t e1 g1 e2 g2 e3 g3 e4 g4
    rw [show (w.alloc (stO s a1 c1 a2 c2 a3 c3 a4 c4)).heap.size = w.heap.size + 1 by simp] at h
    exact h
  have HW := Lib.hid hw
  have HA := Lib.hid hA
  have HB := Lib.hid hB
  have HE1 := Lib.hid (fun w h h2 => oequalExprs_any s.a t.a a1 c1 e1 g1 ho.a ho2.a w h h2)
  have HE2 := Lib.hid (fun w h h2 => oequalExprs_any s.b t.b a2 c2 e2 g2 ho.b ho2.b w h h2)
  have HQ1 := Lib.hid (fun w h h2 => q1 t.body a3 c3 e3 g3 ho.bodyLen ho2.bodyLen ho.body ho2.body w h h2)
  have HQ2 := Lib.hid (fun w h h2 => q2 t.els a4 c4 e4 g4 ho.elsLen ho2.elsLen ho.els ho2.els w h h2)
  have HKs := Lib.hid (hks.below hw)
  have HKs2 := Lib.hid (hks2.below hw)
  have HBX := Lib.hid (Below.refl ((w.alloc (stO s a1 c1 a2 c2 a3 c3 a4 c4)).alloc (stO t e1 g1 e2 g2 e3 g3 e4 g4)).heap.size ((w.alloc (stO s a1 c1 a2 c2 a3 c3 a4 c4)).alloc (stO t e1 g1 e2 g2 e3 g3 e4 g4)))
  rw [eqS_parts, ← bytes_dec, ← Bool.beq_eq_decide_eq, ← Bool.beq_eq_decide_eq]
  obtain ⟨b1, h1⟩ : ∃ b, (s.op == t.op) = b := ⟨_, rfl⟩
  obtain ⟨b2, h2⟩ : ∃ b, (s.name.toList == t.name.toList) = b := ⟨_, rfl⟩
  obtain ⟨b3, h3⟩ : ∃ b, (s.mx == t.mx) = b := ⟨_, rfl⟩
  rw [h1, h2, h3]
  clear hw hA hB q1 q2 ho ho2 hks hks2
  have x0 := HA.out.k0
  have y0 := HB.out.k0
  have x1 := HA.out.k1
  have y1 := HB.out.k1
  have x2 := HA.out.k2
  have y2 := HB.out.k2
  have x3 := HA.out.k3
  have y3 := HB.out.k3
  have x4 := HA.out.k4
  have y4 := HB.out.k4
  have x5 := HA.out.k5
  have y5 := HB.out.k5
  have x6 := HA.out.k6
  have y6 := HB.out.k6
  unfold stO at *
  unfold stC
  unfold exV at *
  simp only [Nat.zero_add] at x0 y0 x1 y1 x2 y2 x3 y3 x4 y4 x5 y5 x6 y6
  go_enter Tryz.func42, Tryz.ntmps42
  go_upto_region 1 with fail
  generalize (w.alloc (.cells #[.int .i64 s.op, .string s.name, .int .i64 s.mx, .int .i64 s.a.op, .int .i64 s.a.n, .string s.a.s, .slice a1 s.a.args.length c1, .int .i64 s.b.op, .int .i64 s.b.n, .string s.b.s, .slice a2 s.b.args.length c2, .slice a3 s.body.length c3, .slice a4 s.els.length c4] 76)).alloc (.cells #[.int .i64 t.op, .string t.name, .int .i64 t.mx, .int .i64 t.a.op, .int .i64 t.a.n, .string t.a.s, .slice e1 t.a.args.length g1, .int .i64 t.b.op, .int .i64 t.b.n, .string t.b.s, .slice e2 t.b.args.length g2, .slice e3 t.body.length g3, .slice e4 t.els.length g4] 76) = w6 at *
  cases b1
  · go_wp2_with fail
    go_ret
    exact ⟨rfl, HW.out⟩
  cases b2
  · go_wp2_with fail
    go_ret
    exact ⟨rfl, HW.out⟩
  cases b3
  · go_wp2_with fail
    go_ret
    exact ⟨rfl, HW.out⟩
  generalize hz1 : eqE s.a t.a = z1 at HE1
  have HZ1 := Lib.hid hz1
  clear hz1
  go_wp2_with fail
  refine (HE1.out _ (HKs.out.below HBX.out).a (HKs2.out.below HBX.out).a).mono ?_; rintro e w71 ⟨rfl, hb7⟩
  have HBX := Lib.hid (below_2 HBX.out hb7)
  clear hb7
  clear x0 y0 x1 y1 x2 y2 x3 y3 x4 y4 x5 y5 x6 y6
  have x7 := (HA.out.below HBX.out).k7
  have y7 := (HB.out.below HBX.out).k7
  have x8 := (HA.out.below HBX.out).k8
  have y8 := (HB.out.below HBX.out).k8
  have x9 := (HA.out.below HBX.out).k9
  have y9 := (HB.out.below HBX.out).k9
  have x10 := (HA.out.below HBX.out).k10
  have y10 := (HB.out.below HBX.out).k10
  simp only [Nat.zero_add] at x7 y7 x8 y8 x9 y9 x10 y10
  cases z1
  · go_wp2_with fail
    go_ret
    exact ⟨ret_bool (by rw [HZ1.out]; simp), below_2 HW.out HBX.out⟩
  generalize hz2 : eqE s.b t.b = z2 at HE2
  have HZ2 := Lib.hid hz2
  clear hz2
  go_wp2_with fail
  refine (HE2.out _ (HKs.out.below HBX.out).b (HKs2.out.below HBX.out).b).mono ?_; rintro e w72 ⟨rfl, hb7⟩
  have HBX := Lib.hid (below_2 HBX.out hb7)
  clear hb7
  clear x7 y7 x8 y8 x9 y9 x10 y10
  have x11 := (HA.out.below HBX.out).k11
  have y11 := (HB.out.below HBX.out).k11
  simp only [Nat.zero_add] at x11 y11
  cases z2
  · go_wp2_with fail
    go_ret
    exact ⟨ret_bool (by rw [HZ1.out, HZ2.out]; simp), below_2 HW.out HBX.out⟩
  generalize hz3 : eqB s.body t.body = z3 at HQ1
  have HZ3 := Lib.hid hz3
  clear hz3
  go_wp2_with fail
  refine (HQ1.out _ (HKs.out.below HBX.out).body (HKs2.out.below HBX.out).body).mono ?_; rintro e w73 ⟨rfl, hb7⟩
  have HBX := Lib.hid (below_2 HBX.out hb7)
  clear hb7
  clear x11 y11
  have x12 := (HA.out.below HBX.out).k12
  have y12 := (HB.out.below HBX.out).k12
  simp only [Nat.zero_add] at x12 y12
  cases z3
  · go_wp2_with fail
    go_ret
    exact ⟨ret_bool (by rw [HZ1.out, HZ2.out, HZ3.out]; simp), below_2 HW.out HBX.out⟩
  generalize hz4 : eqB s.els t.els = z4 at HQ2
  have HZ4 := Lib.hid hz4
  clear hz4
  go_wp2_with fail
  refine (HQ2.out _ (HKs.out.below HBX.out).els (HKs2.out.below HBX.out).els).mono ?_; rintro e w74 ⟨rfl, hb7⟩
  have HBX := Lib.hid (below_2 HBX.out hb7)
  clear hb7
  clear x12 y12
  go_wp2_with fail
  go_ret
  exact ⟨ret_bool (by rw [HZ1.out, HZ2.out, HZ3.out, HZ4.out]; simp), below_2 HW.out HBX.out⟩
set_option maxHeartbeats 8000000 in
set_option maxRecDepth 100000 in
theorem oeqFuncS_any : ∀ l, QF l := by
  refine body_ind fun l ih => ?_
  intro l2 a c a2 c2 hl hl2 hok hok2 w hK hK2
  have HK := Lib.hid hK
  have HK2 := Lib.hid hK2
  have HIH := Lib.hid ih
  have HOK := Lib.hid hok
  have HOK2 := Lib.hid hok2
  obtain ⟨R, hR⟩ : ∃ R, eqB l l2 = R := ⟨_, rfl⟩
  rw [hR]
  have hRl := fun h => hR.symm.trans (eqB_len (l := l) (l2 := l2) h)
  have HR : Hid (eqB (l.drop 0) (l2.drop 0) = R) := hR
  obtain ⟨g, hg⟩ : ∃ g, l.length = g := ⟨_, rfl⟩
  obtain ⟨g2, hg2⟩ : ∃ g, l2.length = g := ⟨_, rfl⟩
  have HL := Lib.hid hg
  have HL2 := Lib.hid hg2
  rw [hg] at hl hRl ⊢
  rw [hg2] at hl2 hRl ⊢
  clear hK hK2 ih hok hok2 hg hg2 hR
  by_cases h4 : g = g2
  · have b4 : ((g : Int) != (g2 : Int)) = false := by rw [bne_eq_false_iff_eq]; omega
    subst h4
    clear hRl
    go_enter Tryz.func41, Tryz.ntmps41
    go_wp2_with fail
    go_loopw [17] (fun s17 wr => ∃ k : Nat, k ≤ g ∧ s17 = .int .i64 k ∧ Hid (eqB (l.drop k) (l2.drop k) = R) ∧ Hid (Below w.heap.size w wr)) (fun s17 _ => g - (intOf s17).toNat)
    case atStart => exact ⟨0, Nat.zero_le _, rfl, HR, Below.refl _ _⟩
    case round =>
      obtain ⟨k, hk, rfl, HX, HB⟩ := hrel
      by_cases hlt : k < g
      · have hlx : k < l.length := by rw [HL.out]; exact hlt
        have hly : k < l2.length := by rw [HL2.out]; exact hlt
        have hx := HX.out
        rw [drop_st hlx, drop_st hly, eqB] at hx
        obtain ⟨b2', i2, rfl, hat⟩ := (HK.out.below HB.out).open hlx
        obtain ⟨b3', i3, rfl, hat2⟩ := (HK2.out.below HB.out).open hly
        have ho := okS_open (HOK.out.get k hlx)
        have ho2 := okS_open (HOK2.out.get k hly)
        obtain ⟨q1, q2⟩ := HIH.out k hlx
        generalize l[k] = s at hat ho q1 q2 hx
        generalize l2[k] = t at hat2 ho2 hx
        obtain ⟨a1, c1, a2, c2, a3, c3, a4, c4, hcs, hks⟩ := hat.open
        obtain ⟨e1, g1, e2, g2, e3, g3, e4, g4, hcs2, hks2⟩ := hat2.open
        have hbx := below_box wr (stO s a1 c1 a2 c2 a3 c3 a4 c4)
        have hby := below_2 hbx (below_box (wr.alloc (stO s a1 c1 a2 c2 a3 c3 a4 c4)) (stO t e1 g1 e2 g2 e3 g3 e4 g4))
        obtain ⟨j0, j1, j2, j3, j4, j5, j6, j7, j8, j9, j10, j11, j12⟩ := hcs2.below hbx
        obtain ⟨k0, k1, k2, k3, k4, k5, k6, k7, k8, k9, k10, k11, k12⟩ := hcs
        have hC := oequalStmts_any s t q1 q2 a1 c1 a2 c2 a3 c3 a4 c4 e1 g1 e2 g2 e3 g3 e4 g4 ho ho2 _ (hks.below hby) (hks2.below hby)
        have HBY := Lib.hid (below_2 HB.out hby)
        clear hat hat2 hks hks2 hcs2 hbx hby q1 q2 ho ho2
        generalize eqS s t = x at hC hx
        unfold stC stO at hC
        unfold stO at HBY j0 j1 j2 j3 j4 j5 j6 j7 j8 j9 j10 j11 j12
        have HC := Lib.hid hC
        clear hC
        cases x
        · rw [Bool.false_and] at hx
          have HV := Lib.hid hx
          clear hx
          go_wp2_with fail
          refine HC.out.mono ?_; rintro e w2 ⟨rfl, hb2⟩
          have HB2 := Lib.hid (below_2 HBY.out hb2)
          clear hb2
          go_wp2_with fail
          go_ret
          exact ⟨ret_bool HV.out, HB2.out⟩
        · rw [Bool.true_and] at hx
          have HN := Lib.hid hx
          clear hx
          go_wp2_with fail
          refine HC.out.mono ?_; rintro e w2 ⟨rfl, hb2⟩
          have HB2 := Lib.hid (below_2 HBY.out hb2)
          clear hb2
          go_wp2_with fail
          go_roundw
          case rel => exact ⟨k + 1, by omega, by go_num, HN, HB2⟩
          case measure => simp [intOf]; omega
      · have HV : Hid (R = true) := by
          show _ = _
          rw [← HX.out, List.drop_of_length_le (by rw [HL.out]; omega), List.drop_of_length_le (by rw [HL2.out]; omega), eqB]
        go_wp2_with fail
        go_ret
        exact ⟨ret_bool HV.out.symm, HB.out⟩
  · have b4 : ((g : Int) != (g2 : Int)) = true := bne_iff_ne.2 (by omega)
    have HV := Lib.hid (hRl h4)
    clear h4 hRl
    go_enter Tryz.func41, Tryz.ntmps41
    go_wp2_with fail
    go_ret
    exact ⟨ret_bool HV.out.symm, Below.refl _ _⟩
end Go.Proofs.YteglaeopaocilaaGreatDoor.A
namespace Go.Proofs.YteglaeopaocilaaGreatDoor.A
open Go.RowKit
open L (Str isName prt size_len below_2 below_box ret_bool ret_int eql_eq bytes_eq)

def VOk (n : Nat) : V → Prop
  | .st s d => okS s ∧ d ≤ n
  | .ex _ _ => True
theorem VOk.mono {n k : Nat} {v : V} (h : VOk n v) (hn : n ≤ k) : VOk k v := by
  cases v with
  | st s d => exact ⟨h.1, Nat.le_trans h.2 hn⟩
  | ex e r => trivial
/-- the node at place j lies at most j blocks deeper than n -/
def Dp (n : Nat) (l : List V) : Prop := ∀ j v, l[j]? = some v → VOk (n + j) v
theorem Dp.nil (n : Nat) : Dp n [] := fun j v h => by simp at h
theorem Dp.cons {n : Nat} {v : V} {l : List V} (h : VOk n v) (h2 : Dp (n + 1) l) : Dp n (v :: l) := fun j x hx => by
  cases j with
  | zero => simp at hx; subst hx; exact h
  | succ j => exact (h2 j x (by simpa using hx)).mono (by omega)
theorem Dp.app {n : Nat} {a b : List V} (h : Dp n a) (h2 : Dp n b) : Dp n (a ++ b) := fun j x hx => by
  by_cases hj : j < a.length
  · rw [List.getElem?_append_left hj] at hx; exact h j x hx
  · rw [List.getElem?_append_right (by omega)] at hx; exact (h2 _ x hx).mono (by omega)
theorem Dp.le {n k : Nat} {l : List V} (h : Dp n l) (hn : n ≤ k) : Dp k l := fun j x hx => (h j x hx).mono (by omega)
mutual
theorem preE_ok (n : Nat) : ∀ (e : Ex) (r : Bool), ∀ v ∈ preE e r, VOk n v
  | .mk o m s l, r, v, h => by
    rw [preE] at h
    rcases List.mem_cons.1 h with rfl | h
    · trivial
    · exact preEs_ok n l v h
theorem preEs_ok (n : Nat) : ∀ (l : List Ex), ∀ v ∈ preEs l, VOk n v
  | [], v, h => by rw [preEs] at h; cases h
  | e :: r, v, h => by
    rw [preEs] at h
    rcases List.mem_append.1 h with h | h
    · exact preE_ok n e false v h
    · exact preEs_ok n r v h
end
theorem preR_ok (n : Nat) (e : Ex) : Dp n (preR e) := by
  intro j v h
  have hm := List.mem_of_getElem? h
  unfold preR at hm
  split at hm
  · cases hm
  · exact preE_ok (n + j) e true v hm
mutual
theorem preS_ok : ∀ (s : St) (d : Nat), okS s → Dp d (preS s d)
  | .mk o nm mx a b bd el, d, hok => by
    have hp := hok
    rw [okS] at hp
    obtain ⟨_, _, _, _, _, _, h1, _, h2⟩ := hp
    rw [preS]
    refine Dp.cons ⟨hok, Nat.le_refl d⟩ ?_
    exact (((preR_ok (d + 1) a).app (preR_ok (d + 1) b)).app (preB_ok bd (d + 1) h1)).app (preB_ok el (d + 1) h2)
theorem preB_ok : ∀ (l : List St) (d : Nat), okB l → Dp d (preB l d)
  | [], d, _ => by rw [preB]; exact Dp.nil d
  | s :: r, d, hok => by
    rw [okB] at hok
    rw [preB]
    exact (preS_ok s d hok.1).app (preB_ok r d hok.2)
end
end Go.Proofs.YteglaeopaocilaaGreatDoor.A
namespace Go.Proofs.YteglaeopaocilaaGreatDoor.A
open Go.RowKit
open L (Str isName prt size_len below_2 below_box ret_bool ret_int eql_eq bytes_eq)

/-- block b holds these cells, and may be written -/
def Bx (w : World) (b : Nat) (cs : Array Value) (t : TypeId) : Prop := w.heap[b]? = some (.cells cs t)
namespace Bx
variable {w w' : World} {b : Nat} {cs : Array Value} {t : TypeId}
theorem new (w : World) (cs : Array Value) (t : TypeId) : Bx (w.alloc (.cells cs t)) w.heap.size cs t := by
  show (w.heap.push _)[w.heap.size]? = _
  simp
theorem lt (h : Bx w b cs t) : b < w.heap.size := (Array.getElem?_eq_some_iff.1 h).1
theorem keep (h : Bx w b cs t) (hk : w'.heap[b]? = w.heap[b]?) : Bx w' b cs t := hk.trans h
theorem below (h : Bx w b cs t) (hb : Below w.heap.size w w') : Bx w' b cs t := (hb.block b h.lt).trans h
theorem cell (h : Bx w b cs t) (i : Nat) : w.cell? ⟨b, i, none⟩ = cs[i]? := by
  have h' : w.heap[b]? = some (.cells cs t) := h
  simp [World.cell?, h']
theorem free (h : Bx w b cs t) (i : Nat) : w.frozen? ⟨b, i, none⟩ = false := by
  have h' : w.heap[b]? = some (.cells cs t) := h
  simp [World.frozen?, h']
theorem set (h : Bx w b cs t) (i : Nat) {u : Value} : Bx (w.setCell ⟨b, i, none⟩ u) b (cs.setIfInBounds i u) t := by
  have h' : w.heap[b]? = some (.cells cs t) := h
  show (w.setCell ⟨b, i, none⟩ u).heap[b]? = _
  simp [World.setCell, Array.getElem?_modify, h']
end Bx
/-- what the function value returns that copiedExpr is given -/
structure NamC (w0 : World) (f t : ByteArray) : Prop where
  call : ∀ (x : ByteArray) (w : World), x.size ≤ 281474976710656 → Below w0.heap.size w0 w → Calls Tryz.prog 125 #[.string x] w fun e w' => e = .returned (.string (swap f t x)) ∧ Below w.heap.size w w'
end Go.Proofs.YteglaeopaocilaaGreatDoor.A
