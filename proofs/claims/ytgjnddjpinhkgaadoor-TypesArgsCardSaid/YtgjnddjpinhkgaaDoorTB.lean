/-
  Declarations of texts that lie merged: the reference of layer 11.
-/
import Derived.Test.YtgjnddjpinhkgaaDoorTA
import Derived.Test.YtgjnddjpinhkgaaDoorT0
import Derived.Test.YtgjnddjpinhkgaaDoorS2
import Derived.Test.YtgjnddjpinhkgaaDoorS4
import Derived.Test.YtgjnddjpinhkgaaDoorS7
import Derived.Test.YtgjnddjpinhkgaaDoorM14
import Derived.Test.YtgjnddjpinhkgaaDoorM10
namespace Go.Proofs.YtgjnddjpinhkgaaDoor.Y
open Go.RowKit
open L (Str isName prt size_len below_2 below_box ret_bool ret_int eql_eq bytes_eq)
open A (Ex St Pm Pr V arity vE vEs absent exV exO Bx exV_mk exO_mk okE cE PmsAt)
theorem look_drop {l : List Pm} {k : Nat} (hk : k < l.length) (x : ByteArray) : look (l.drop k) x = if l[k].name = x then some l[k].ty else look (l.drop (k + 1)) x := by
  rw [List.drop_eq_getElem_cons hk, look_cons]
set_option maxHeartbeats 4000000 in
set_option maxRecDepth 100000 in
theorem rlookup_any (vs : List Pm) (a : Option Addr) (c : Nat) (x : ByteArray) (hl : vs.length ≤ 1000000000000000) (w : World) (hK : PmsAt w a vs) :
    Calls Tryd.prog 109 #[.slice a vs.length c, .string x] w fun e' w' => e' = .returned (.tuple #[.int .i64 (tyV (look vs) x).1, .int .i64 (tyV (look vs) x).2]) ∧ w' = w := by
  have HK := Lib.hid hK
  obtain ⟨R, hR⟩ : ∃ R, tyV (look vs) x = R := ⟨_, rfl⟩
  rw [hR]
  have HR : Hid (tyV (look (vs.drop 0)) x = R) := hR
  obtain ⟨c1, c2⟩ := R
  obtain ⟨m, hm⟩ : ∃ m, vs.length = m := ⟨_, rfl⟩
  have HL := Lib.hid hm
  rw [hm] at hl ⊢
  clear hm hR hK
  go_enter Tryd.func109, Tryd.ntmps109
  go_wp2_with fail
  go_loopw [6] (fun s6 wr => ∃ k : Nat, k ≤ m ∧ s6 = .int .i64 k ∧ Hid (tyV (look (vs.drop k)) x = (c1, c2)) ∧ wr = w) (fun s6 _ => m - (intOf s6).toNat)
  case atStart => exact ⟨0, Nat.zero_le _, rfl, HR, rfl⟩
  case round =>
    obtain ⟨k, hk, rfl, HX, rfl⟩ := hrel
    by_cases hlt : k < m
    · have hlx : k < vs.length := by rw [HL.out]; exact hlt
      obtain ⟨b3, i3, rfl, hcc⟩ := HK.out.open hlx
      obtain ⟨f0, f1⟩ := hcc k hlx
      have hlk := look_drop hlx x
      have hx := HX.out
      generalize vs[k] = q at f0 f1 hlk
      have hb := A.bytes_dec q.name x
      clear hcc
      by_cases hn : q.name = x
      · rw [decide_eq_true hn] at hb
        rw [if_pos hn] at hlk
        rw [tyV_some hlk] at hx
        clear hlk hn
        by_cases h1 : q.ty < 1
        · rw [if_neg (by omega)] at hx
          have HV : Hid (0 = c1 ∧ (10 : Int) = c2) := by injection hx with h1 h2; exact ⟨h1, h2⟩
          have b1 : decide (q.ty < 1) = true := decide_eq_true h1
          clear h1 hx
          go_wp2_with fail
          go_ret2
          exact ⟨ret_2 HV.out.1 HV.out.2, rfl⟩
        · have b1 : decide (q.ty < 1) = false := decide_eq_false h1
          by_cases h2 : 3 < q.ty
          · rw [if_neg (by omega)] at hx
            have HV : Hid (0 = c1 ∧ (10 : Int) = c2) := by injection hx with h1 h2; exact ⟨h1, h2⟩
            have b2 : decide (3 < q.ty) = true := decide_eq_true h2
            clear h1 h2 hx
            go_wp2_with fail
            go_ret2
            exact ⟨ret_2 HV.out.1 HV.out.2, rfl⟩
          · rw [if_pos (by omega)] at hx
            have HV : Hid (q.ty = c1 ∧ (0 : Int) = c2) := by injection hx with h1 h2; exact ⟨h1, h2⟩
            have b2 : decide (3 < q.ty) = false := decide_eq_false h2
            clear h1 h2 hx
            go_wp2_with fail
            go_ret2
            exact ⟨ret_2 HV.out.1 HV.out.2, rfl⟩
      · rw [decide_eq_false hn] at hb
        rw [if_neg hn] at hlk
        have HX2 : Hid (tyV (look (vs.drop (k + 1))) x = (c1, c2)) := by
          show _ = _
          rw [← hx]; unfold tyV; rw [hlk]
        clear hlk hn hx
        go_wp2_with fail
        go_roundw
        case rel => exact ⟨k + 1, by omega, by go_num, HX2.out, trivial⟩
        case measure => simp [intOf]; omega
    · have hx := HX.out
      rw [List.drop_of_length_le (by rw [HL.out]; omega), tyV_none rfl] at hx
      have HV : Hid (0 = c1 ∧ (11 : Int) = c2) := by injection hx with h1 h2; exact ⟨h1, h2⟩
      clear hx
      go_wp2_with fail
      go_ret2
      exact ⟨ret_2 HV.out.1 HV.out.2, rfl⟩
set_option maxHeartbeats 4000000 in
set_option maxRecDepth 100000 in
theorem runary_any {o : Int} (ho : o = 9 ∨ o = 18 ∨ o = 20 ∨ o = 21 ∨ o = 22 ∨ o = 23 ∨ o = 24) (w : World) :
    Calls Tryd.prog 114 #[.int .i64 o] w fun e' w' => e' = .returned (.tuple #[.int .i64 (unW o), .int .i64 (unO o)]) ∧ w' = w := by
  rcases ho with rfl | rfl | rfl | rfl | rfl | rfl | rfl
  all_goals
    go_enter Tryd.func114, Tryd.ntmps114
    go_wp2_with fail
    go_ret2
    exact ⟨ret_2 (by decide) (by decide), rfl⟩
set_option maxHeartbeats 8000000 in
set_option maxRecDepth 100000 in
theorem rbinary_any {o : Int} (ho : 4 ≤ o ∧ o ≤ 19 ∧ o ≠ 9 ∧ o ≠ 18) {a b : Int} (ha : 1 ≤ a ∧ a ≤ 3) (w : World) :
    Calls Tryd.prog 115 #[.int .i64 o, .int .i64 a, .int .i64 b] w fun e' w' => e' = .returned (.int .i64 (biO o a b)) ∧ w' = w := by
  by_cases hab : a = b
  · subst hab
    have h7 : o = 4 ∨ o = 5 ∨ o = 6 ∨ o = 7 ∨ o = 8 ∨ o = 10 ∨ o = 11 ∨ o = 12 ∨ o = 13 ∨ o = 14 ∨ o = 15 ∨ o = 16 ∨ o = 17 ∨ o = 19 := by omega
    have ha3 := rng_cases ha
    clear ho ha
    rcases h7 with rfl | rfl | rfl | rfl | rfl | rfl | rfl | rfl | rfl | rfl | rfl | rfl | rfl | rfl <;> rcases ha3 with rfl | rfl | rfl
    all_goals
      go_enter Tryd.func115, Tryd.ntmps115
      go_wp2_with fail
      go_ret
      exact ⟨ret_int (by decide), rfl⟩
  · have hb : biO o a b = 0 := by unfold biO; rw [if_pos hab]
    have b1 : (a != b) = true := bne_iff_ne.2 hab
    rw [hb]
    clear hb hab ho ha
    go_enter Tryd.func115, Tryd.ntmps115
    go_wp2_with fail
    go_ret
    exact ⟨rfl, rfl⟩
def leafR (f : Env) (e : Ex) : Int × Int := if e.op = 3 then tyV f e.s else if e.op = 2 then (2, 0) else (1, 0)
set_option maxHeartbeats 4000000 in
set_option maxRecDepth 100000 in
theorem rleaf_any (e : Ex) (a : Option Addr) (c : Nat) (vs : List Pm) (av : Option Addr) (cv : Nat) (hl : vs.length ≤ 1000000000000000) (w : World) (hP : PmsAt w av vs) :
    Calls Tryd.prog 113 #[exV e a c, .slice av vs.length cv] w fun e' w' => e' = .returned (.tuple #[.int .i64 (leafR (look vs) e).1, .int .i64 (leafR (look vs) e).2]) ∧ Below w.heap.size w w' := by
  obtain ⟨o, n, s, l⟩ := e
  have hw := below_box w (exO (.mk o n s l) a c)
  have HC := Lib.hid (rlookup_any vs av cv s hl _ (hP.below hw))
  have HW := Lib.hid hw
  simp only [exV_mk, exO_mk] at *
  have hr : leafR (look vs) (.mk o n s l) = if o = 3 then tyV (look vs) s else if o = 2 then (2, 0) else (1, 0) := rfl
  obtain ⟨Q, hQ⟩ : ∃ Q, leafR (look vs) (.mk o n s l) = Q := ⟨_, rfl⟩
  rw [hQ] at hr ⊢
  clear hQ
  generalize vs.length = m at *
  generalize tyV (look vs) s = R at *
  obtain ⟨r1, r2⟩ := R
  obtain ⟨q1, q2⟩ := Q
  clear hw hP
  by_cases h3 : o = 3
  · rw [if_pos h3] at hr
    have HV : Hid (r1 = q1 ∧ r2 = q2) := by injection hr with h1 h2; exact ⟨h1.symm, h2.symm⟩
    clear hr
    subst h3
    go_enter Tryd.func113, Tryd.ntmps113
    go_wp2_with fail
    refine HC.out.mono ?_; rintro e' w2 ⟨rfl, rfl⟩
    go_wp2_with fail
    go_ret2
    exact ⟨ret_2 HV.out.1 HV.out.2, HW.out⟩
  · have b3 : (o == 3) = false := beq_eq_false_iff_ne.2 h3
    rw [if_neg h3] at hr
    by_cases h2 : o = 2
    · rw [if_pos h2] at hr
      have HV : Hid ((2 : Int) = q1 ∧ (0 : Int) = q2) := by injection hr with h1 h2; exact ⟨h1.symm, h2.symm⟩
      clear hr
      subst h2
      clear b3 h3
      go_enter Tryd.func113, Tryd.ntmps113
      go_wp2_with fail
      go_ret2
      exact ⟨ret_2 HV.out.1 HV.out.2, HW.out⟩
    · have b2 : (o == 2) = false := beq_eq_false_iff_ne.2 h2
      rw [if_neg h2] at hr
      have HV : Hid ((1 : Int) = q1 ∧ (0 : Int) = q2) := by injection hr with h1 h2; exact ⟨h1.symm, h2.symm⟩
      clear h2 h3 hr
      go_enter Tryd.func113, Tryd.ntmps113
      go_wp2_with fail
      go_ret2
      exact ⟨ret_2 HV.out.1 HV.out.2, HW.out⟩
end Go.Proofs.YtgjnddjpinhkgaaDoor.Y
namespace Go.Proofs.YtgjnddjpinhkgaaDoor.Y
open Go.RowKit
open L (Str isName prt size_len below_2 below_box ret_bool ret_int eql_eq bytes_eq)
open A (Ex St Pm Pr V arity vE vEs absent exV exO Bx exV_mk exO_mk okE cE PmsAt)
def QRt (vs : List Pm) (e : Ex) : Prop := ∀ (d : Nat) (a : Option Addr) (c : Nat) (av : Option Addr) (cv : Nat) (w : World), vE e d = 0 → A.Kids w a e.args → PmsAt w av vs →
  Calls Tryd.prog 76 #[exV e a c, .slice av vs.length cv] w fun e' w' => e' = .returned (.tuple #[.int .i64 (tyE (look vs) e).1, .int .i64 (tyE (look vs) e).2]) ∧ Below w.heap.size w w'
set_option maxHeartbeats 8000000 in
set_option maxRecDepth 100000 in
theorem rtypeOf_any {vs : List Pm} (hl : vs.length ≤ 1000000000000000) : ∀ e, QRt vs e := by
  refine Ex.ind (P := QRt vs) ?_
  intro o n s l ih d a c av cv w hv hK hP
  have hw := below_box w (exO (.mk o n s l) a c)
  have hbx := Bx.new w #[.int .i64 o, .int .i64 n, .string s, .slice a l.length c] 52
  have HAR := Lib.hid (fun w => A.rarity_any o w)
  have HW := Lib.hid hw
  have hK' : A.Kids (w.alloc (exO (.mk o n s l) a c)) a l := hK.below hw
  have hP' := hP.below hw
  obtain ⟨h1, h2⟩ := vE_open hv
  obtain ⟨h0, -, -⟩ := node_open h1
  have h0' : 0 ≤ arity o := h0
  rcases arity_cases h0' with ⟨har, ho⟩ | ⟨har, ho⟩ | ⟨har, ho⟩
  · obtain ⟨rfl, hty⟩ := ty_leaf (look vs) hv har
    have HLF := Lib.hid (fun w hP => rleaf_any (.mk o n s []) a c vs av cv hl w hP)
    have hlf : leafR (look vs) (.mk o n s []) = tyE (look vs) (.mk o n s []) := by rw [hty]; rfl
    rw [hlf] at HLF
    have HP := Lib.hid hP'
    rw [har] at HAR
    have HBX := Lib.hid hbx
    simp only [exV_mk, exO_mk] at *
    generalize tyE (look vs) (.mk o n s []) = R at *
    generalize vs.length = mv at *
    obtain ⟨r1, r2⟩ := R
    clear hw hbx hK hK' hP hP' ih hv hty hlf h1 h2 h0 h0' ho har
    simp only [List.length_nil] at *
    have x := HBX.out
    have x0 := x.cell 0
    have x1 := x.cell 1
    have x2 := x.cell 2
    have x3 := x.cell 3
    clear x
    go_enter Tryd.func76, Tryd.ntmps76
    go_wp2_with fail
    refine (HAR.out _).mono ?_; rintro e' w2 ⟨rfl, rfl⟩
    have HL2 := Lib.hid (HLF.out _ HP.out)
    clear x0 x1 x2 x3
    go_wp2_with fail
    refine HL2.out.mono ?_; rintro e' w3 ⟨rfl, hb3⟩
    have HB3 := Lib.hid (below_2 HW.out hb3)
    clear hb3
    go_wp2_with fail
    go_ret2
    exact ⟨rfl, HB3.out⟩
  · obtain ⟨x, rfl, hvx, hty⟩ := ty_un (look vs) hv har
    obtain ⟨b2, i2, rfl, hat⟩ := hK'.open (show 0 < 1 by decide)
    obtain ⟨d0, d1, d2, a4, c4, d3, hk4⟩ := hat.open
    have hih : QRt vs x := ih 0 (by simp)
    have HX := Lib.hid (hih (d + 1) a4 c4 av cv _ hvx hk4 hP')
    have HUN := Lib.hid (fun w => runary_any ho w)
    have hxv : exV x a4 c4 = .agg #[.int .i64 x.op, .int .i64 x.n, .string x.s, .slice a4 x.args.length c4] := rfl
    rw [hxv] at HX
    simp only [List.getElem_cons_zero, Nat.zero_mul, Nat.add_zero] at d0 d1 d2 d3
    have x0 := hbx.cell 0
    have x3 := hbx.cell 3
    have HBX := Lib.hid hbx
    rw [har] at HAR
    simp only [exV_mk, exO_mk] at *
    obtain ⟨R, hR⟩ : ∃ R, tyE (look vs) (.mk o n s [x]) = R := ⟨_, rfl⟩
    rw [hR] at hty ⊢
    have HTY := Lib.hid hty
    generalize tyE (look vs) x = r at *
    generalize unW o = u1 at *
    generalize unO o = u2 at *
    generalize vs.length = mv at *
    generalize x.args.length = m2 at *
    generalize x.op = o2 at *
    generalize x.n = n2 at *
    generalize x.s = s2 at *
    obtain ⟨r1, r2⟩ := r
    obtain ⟨q1, q2⟩ := R
    simp only [List.length_singleton, List.getElem?_toArray, List.getElem?_cons_succ, List.getElem?_cons_zero] at *
    clear hw hbx hK hK' hP hP' ih hv hty h1 h2 h0 h0' ho har hat hk4 hih hxv hR hvx
    go_enter Tryd.func76, Tryd.ntmps76
    go_wp2_with fail
    refine (HAR.out _).mono ?_; rintro e' w2 ⟨rfl, rfl⟩
    go_wp2_with fail
    refine HX.out.mono ?_; rintro e' w3 ⟨rfl, hb3⟩
    have HB3 := Lib.hid (below_2 HW.out hb3)
    have x0' := (hb3.cell (block_lt_of_cell x0)).trans x0
    clear hb3 x3 d0 d1 d2 d3 x0
    by_cases hz : r2 = 0
    · subst hz
      by_cases hu : r1 = u1
      · have b1 : (r1 != u1) = false := by rw [hu]; exact bne_self_eq_false _
        have HV : Hid (u2 = q1 ∧ (0 : Int) = q2) := by
          have := HTY.out
          rw [if_neg (fun z => z rfl), if_neg (fun z => z hu)] at this
          injection this with h1 h2; exact ⟨h1.symm, h2.symm⟩
        clear hu
        go_wp2_with fail
        refine (HUN.out _).mono ?_; rintro e' w4 ⟨rfl, rfl⟩
        go_wp2_with fail
        go_ret2
        exact ⟨ret_2 HV.out.1 HV.out.2, HB3.out⟩
      · have b1 : (r1 != u1) = true := bne_iff_ne.2 hu
        have HV : Hid ((0 : Int) = q1 ∧ (10 : Int) = q2) := by
          have := HTY.out
          rw [if_neg (fun z => z rfl), if_pos hu] at this
          injection this with h1 h2; exact ⟨h1.symm, h2.symm⟩
        clear hu
        go_wp2_with fail
        refine (HUN.out _).mono ?_; rintro e' w4 ⟨rfl, rfl⟩
        go_wp2_with fail
        go_ret2
        exact ⟨ret_2 HV.out.1 HV.out.2, HB3.out⟩
    · have b1 : (r2 != 0) = true := bne_iff_ne.2 hz
      have HV : Hid ((0 : Int) = q1 ∧ r2 = q2) := by
        have := HTY.out
        rw [if_pos hz] at this
        injection this with h1 h2; exact ⟨h1.symm, h2.symm⟩
      clear hz
      go_wp2_with fail
      go_ret2
      exact ⟨ret_2 HV.out.1 HV.out.2, HB3.out⟩
  · obtain ⟨x, y, rfl, hvx, hvy, hty⟩ := ty_bi (look vs) hv har
    obtain ⟨b2, i2, rfl, hat⟩ := hK'.open (show 0 < 2 by decide)
    obtain ⟨d0, d1, d2, a4, c4, d3, hk4⟩ := hat.open
    obtain ⟨b2', i2', hbi, hat2⟩ := hK'.open (show 1 < 2 by decide)
    obtain ⟨rfl, rfl⟩ : b2 = b2' ∧ i2 = i2' := by injection hbi with h; injection h with h1 h2; exact ⟨h1, h2⟩
    obtain ⟨e0, e1, e2, a5, c5, e3, hk5⟩ := hat2.open
    have hih : QRt vs x := ih 0 (by simp)
    have hih2 : QRt vs y := ih 1 (by simp)
    have HX := Lib.hid (hih (d + 1) a4 c4 av cv _ hvx hk4 hP')
    have HY := Lib.hid (fun w' hb => hih2 (d + 1) a5 c5 av cv w' hvy (hk5.below hb) (hP'.below hb))
    have hrx := ty_rng (look vs) x hvx
    have HBI := Lib.hid (fun (ha : 1 ≤ (tyE (look vs) x).1 ∧ (tyE (look vs) x).1 ≤ 3) w => rbinary_any ho (b := (tyE (look vs) y).1) ha w)
    have hxv : exV x a4 c4 = .agg #[.int .i64 x.op, .int .i64 x.n, .string x.s, .slice a4 x.args.length c4] := rfl
    have hyv : exV y a5 c5 = .agg #[.int .i64 y.op, .int .i64 y.n, .string y.s, .slice a5 y.args.length c5] := rfl
    rw [hxv] at HX
    rw [hyv] at HY
    simp only [List.getElem_cons_zero, List.getElem_cons_succ, Nat.zero_mul, Nat.one_mul, Nat.add_zero] at d0 d1 d2 d3 e0 e1 e2 e3
    have x0 := hbx.cell 0
    have x3 := hbx.cell 3
    have HBX := Lib.hid hbx
    rw [har] at HAR
    simp only [exV_mk, exO_mk] at *
    obtain ⟨R, hR⟩ : ∃ R, tyE (look vs) (.mk o n s [x, y]) = R := ⟨_, rfl⟩
    rw [hR] at hty ⊢
    have HTY := Lib.hid hty
    generalize tyE (look vs) x = r at *
    generalize tyE (look vs) y = t at *
    generalize vs.length = mv at *
    generalize x.args.length = m2 at *
    generalize x.op = o2 at *
    generalize x.n = n2 at *
    generalize x.s = s2 at *
    generalize y.args.length = m3 at *
    generalize y.op = o3 at *
    generalize y.n = n3 at *
    generalize y.s = s3 at *
    obtain ⟨r1, r2⟩ := r
    obtain ⟨t1, t2⟩ := t
    obtain ⟨q1, q2⟩ := R
    simp only [List.length_cons, List.length_nil, List.getElem?_toArray, List.getElem?_cons_succ, List.getElem?_cons_zero] at *
    have HRX := Lib.hid hrx
    clear hw hbx hK hK' hP hP' ih hv hty h1 h2 h0 h0' ho har hat hat2 hk4 hk5 hih hih2 hxv hyv hR hvx hvy hbi hrx
    go_enter Tryd.func76, Tryd.ntmps76
    go_wp2_with fail
    refine (HAR.out _).mono ?_; rintro e' w2 ⟨rfl, rfl⟩
    go_wp2_with fail
    refine HX.out.mono ?_; rintro e' w3 ⟨rfl, hb3⟩
    have HB3 := Lib.hid (below_2 HW.out hb3)
    have x0' := (hb3.cell (block_lt_of_cell x0)).trans x0
    have x3' := (hb3.cell (block_lt_of_cell x3)).trans x3
    have e0' := (hb3.cell (block_lt_of_cell e0)).trans e0
    have e1' := (hb3.cell (block_lt_of_cell e1)).trans e1
    have e2' := (hb3.cell (block_lt_of_cell e2)).trans e2
    have e3' := (hb3.cell (block_lt_of_cell e3)).trans e3
    have HY3 := Lib.hid (HY.out w3 hb3)
    clear hb3 x3 d0 d1 d2 d3 x0 e0 e1 e2 e3
    by_cases hz : r2 = 0
    · subst hz
      have HRA := Lib.hid (HRX.out.resolve_right (by rintro ⟨z, -⟩; omega)).2
      go_wp2_with fail
      refine HY3.out.mono ?_; rintro e' w4 ⟨rfl, hb4⟩
      have HB4 := Lib.hid (below_2 HB3.out hb4)
      have x0'' := (hb4.cell (block_lt_of_cell x0')).trans x0'
      clear hb4 x0' x3' e0' e1' e2' e3'
      by_cases hz2 : t2 = 0
      · subst hz2
        have HBI2 := Lib.hid (HBI.out HRA.out w4)
        have hty := HTY.out
        rw [if_neg (fun z => z rfl), if_neg (fun z => z rfl)] at hty
        generalize biO o r1 t1 = v at *
        by_cases hu : v = 0
        · rw [if_pos hu] at hty
          have HV : Hid ((0 : Int) = q1 ∧ (10 : Int) = q2) := by injection hty with h1 h2; exact ⟨h1.symm, h2.symm⟩
          subst hu
          clear hty
          go_wp2_with fail
          refine HBI2.out.mono ?_; rintro e' w5 ⟨rfl, rfl⟩
          go_wp2_with fail
          go_ret2
          exact ⟨ret_2 HV.out.1 HV.out.2, HB4.out⟩
        · rw [if_neg hu] at hty
          have HV : Hid (v = q1 ∧ (0 : Int) = q2) := by injection hty with h1 h2; exact ⟨h1.symm, h2.symm⟩
          have b1 : (v == 0) = false := beq_eq_false_iff_ne.2 hu
          clear hty hu
          go_wp2_with fail
          refine HBI2.out.mono ?_; rintro e' w5 ⟨rfl, rfl⟩
          go_wp2_with fail
          go_ret2
          exact ⟨ret_2 HV.out.1 HV.out.2, HB4.out⟩
      · have b1 : (t2 != 0) = true := bne_iff_ne.2 hz2
        have HV : Hid ((0 : Int) = q1 ∧ t2 = q2) := by
          have := HTY.out
          rw [if_neg (fun z => z rfl), if_pos hz2] at this
          injection this with h1 h2; exact ⟨h1.symm, h2.symm⟩
        clear hz2
        go_wp2_with fail
        go_ret2
        exact ⟨ret_2 HV.out.1 HV.out.2, HB4.out⟩
    · have b1 : (r2 != 0) = true := bne_iff_ne.2 hz
      have HV : Hid ((0 : Int) = q1 ∧ r2 = q2) := by
        have := HTY.out
        rw [if_pos hz] at this
        injection this with h1 h2; exact ⟨h1.symm, h2.symm⟩
      clear hz
      go_wp2_with fail
      go_ret2
      exact ⟨ret_2 HV.out.1 HV.out.2, HB3.out⟩
set_option maxHeartbeats 4000000 in
set_option maxRecDepth 100000 in
theorem rOf_any (e : Ex) (a : Option Addr) (c : Nat) (vs : List Pm) (av : Option Addr) (cv : Nat) (hok : okE e) (hl : vs.length ≤ 1000000000000000) (w : World) (hK : A.Kids w a e.args) (hP : PmsAt w av vs) :
    Calls Tryd.prog 39 #[exV e a c, .slice av vs.length cv] w fun e' w' => e' = .returned (.tuple #[.int .i64 (ofE (look vs) e).1, .int .i64 (ofE (look vs) e).2]) ∧ Below w.heap.size w w' := by
  have hw := below_box w (exO e a c)
  have hbx := Bx.new w #[.int .i64 e.op, .int .i64 e.n, .string e.s, .slice a e.args.length c] 52
  have HV := Lib.hid (A.rvalidExpr_any e a c hok _ (hK.below hw))
  have HT := Lib.hid (fun w' hb hv => rtypeOf_any hl e 1 a c av cv w' hv ((hK.below hw).below hb) ((hP.below hw).below hb))
  have HW := Lib.hid hw
  have hbx' : Bx (w.alloc (exO e a c)) w.heap.size #[.int .i64 e.op, .int .i64 e.n, .string e.s, .slice a e.args.length c] 52 := hbx
  have HBX := Lib.hid hbx'
  obtain ⟨R, hR⟩ : ∃ R, ofE (look vs) e = R := ⟨_, rfl⟩
  have HR : Hid (R = if vE e 1 ≠ 0 then (0, vE e 1) else tyE (look vs) e) := by show _ = _; rw [← hR]; rfl
  rw [hR]
  obtain ⟨c1, c2⟩ := R
  generalize tyE (look vs) e = T at *
  obtain ⟨t1, t2⟩ := T
  generalize vE e 1 = x at *
  unfold exO at *
  unfold exV at *
  generalize vs.length = mv at *
  clear hw hbx hbx' hK hP hok hR
  go_enter Tryd.func39, Tryd.ntmps39
  go_wp2_with fail
  refine HV.out.mono ?_; rintro e' w2 ⟨rfl, hb2⟩
  have HB2 := Lib.hid (below_2 HW.out hb2)
  have hx2 := HBX.out.below hb2
  have x0 := hx2.cell 0
  have x1 := hx2.cell 1
  have x2 := hx2.cell 2
  have x3 := hx2.cell 3
  simp only [List.getElem?_toArray, List.getElem?_cons_succ, List.getElem?_cons_zero] at x0 x1 x2 x3
  have HT2 := Lib.hid (HT.out w2 hb2)
  clear hb2 hx2
  by_cases hz : x = 0
  · have HV2 : Hid (t1 = c1 ∧ t2 = c2) := by
      have := HR.out
      rw [if_neg (fun z => z hz)] at this
      injection this with h1 h2; exact ⟨h1.symm, h2.symm⟩
    have HT3 := Lib.hid (HT2.out hz)
    subst hz
    go_wp2_with fail
    refine HT3.out.mono ?_; rintro e' w3 ⟨rfl, hb3⟩
    have HB3 := Lib.hid (below_2 HB2.out hb3)
    clear hb3
    go_wp2_with fail
    go_ret2
    exact ⟨ret_2 HV2.out.1 HV2.out.2, HB3.out⟩
  · have b1 : (x != 0) = true := bne_iff_ne.2 hz
    have HV2 : Hid ((0 : Int) = c1 ∧ x = c2) := by
      have := HR.out
      rw [if_pos hz] at this
      injection this with h1 h2; exact ⟨h1.symm, h2.symm⟩
    clear hz
    go_wp2_with fail
    go_ret2
    exact ⟨ret_2 HV2.out.1 HV2.out.2, HB2.out⟩
end Go.Proofs.YtgjnddjpinhkgaaDoor.Y
namespace Go.Proofs.YtgjnddjpinhkgaaDoor.Y
open Go.RowKit
open L (Str isName prt size_len below_2 below_box ret_bool ret_int eql_eq bytes_eq)
open A (Ex St Pm Pr V arity vE vEs absent exV exO exV_mk Bx okE okEs cE cEs PmsAt StrsAt)
set_option maxHeartbeats 2000000 in
set_option maxRecDepth 100000 in
theorem rwrong_any (o a b : Int) (w : World) : Calls Tryd.prog 73 #[.int .i64 o, .int .i64 a, .int .i64 b] w fun e' w' => e' = .returned (.bool (wrong o a b)) ∧ w' = w := by
  obtain ⟨R, hR⟩ : ∃ R, wrong o a b = R := ⟨_, rfl⟩
  rw [hR]
  unfold wrong at hR
  have HR := Lib.hid hR
  clear hR
  by_cases h3 : o = 3
  · subst h3
    by_cases ha : a = 2
    · subst ha
      have HV : Hid (decide (b = 3) = R) := by show _ = _; rw [← HR.out]; rfl
      by_cases hb : b = 3
      · subst hb
        have HV2 : Hid (true = R) := HV.out
        go_enter Tryd.func73, Tryd.ntmps73
        go_wp2_with fail
        go_ret
        exact ⟨ret_bool HV2.out, rfl⟩
      · have e1 : (b == 3) = false := beq_eq_false_iff_ne.2 hb
        have HV2 : Hid (false = R) := by show _ = _; rw [← HV.out, decide_eq_false hb]
        clear hb
        go_enter Tryd.func73, Tryd.ntmps73
        go_wp2_with fail
        go_ret
        exact ⟨ret_bool HV2.out, rfl⟩
    · have e1 : (a != 2) = true := bne_iff_ne.2 ha
      have HV : Hid (true = R) := by show _ = _; rw [← HR.out, decide_eq_false ha]; rfl
      clear ha
      go_enter Tryd.func73, Tryd.ntmps73
      go_wp2_with fail
      go_ret
      exact ⟨ret_bool HV.out, rfl⟩
  have b3 : (o == 3) = false := beq_eq_false_iff_ne.2 h3
  by_cases h4 : o = 4
  · subst h4
    have HV : Hid ((a != 2) = R) := by
      show _ = _
      rw [← HR.out, if_neg (by decide), if_pos rfl]
      by_cases h : a = 2
      · rw [h]; rfl
      · rw [decide_eq_false h, bne_iff_ne.2 h]; rfl
    go_enter Tryd.func73, Tryd.ntmps73
    go_wp2_with fail
    go_ret
    exact ⟨ret_bool HV.out, rfl⟩
  have b4 : (o == 4) = false := beq_eq_false_iff_ne.2 h4
  by_cases h5 : o = 5
  · subst h5
    have HV : Hid ((a != 3) = R) := by
      show _ = _
      rw [← HR.out, if_neg (by decide), if_neg (by decide), if_pos rfl]
      by_cases h : a = 3
      · rw [h]; rfl
      · rw [decide_eq_false h, bne_iff_ne.2 h]; rfl
    go_enter Tryd.func73, Tryd.ntmps73
    go_wp2_with fail
    go_ret
    exact ⟨ret_bool HV.out, rfl⟩
  have b5 : (o == 5) = false := beq_eq_false_iff_ne.2 h5
  by_cases h6 : o = 6
  · subst h6
    by_cases ha : a = 1
    · subst ha
      have HV : Hid ((b != 1) = R) := by
        show _ = _
        rw [← HR.out, if_neg (by decide), if_neg (by decide), if_neg (by decide), if_pos rfl]
        by_cases h : b = 1
        · rw [h]; rfl
        · rw [decide_eq_false h, bne_iff_ne.2 h]; rfl
      go_enter Tryd.func73, Tryd.ntmps73
      go_wp2_with fail
      go_ret
      exact ⟨ret_bool HV.out, rfl⟩
    · have e1 : (a != 1) = true := bne_iff_ne.2 ha
      have HV : Hid (true = R) := by
        show _ = _
        rw [← HR.out, if_neg (by decide), if_neg (by decide), if_neg (by decide), if_pos rfl, decide_eq_false ha]; rfl
      clear ha
      go_enter Tryd.func73, Tryd.ntmps73
      go_wp2_with fail
      go_ret
      exact ⟨ret_bool HV.out, rfl⟩
  have b6 : (o == 6) = false := beq_eq_false_iff_ne.2 h6
  by_cases h7 : o = 7
  · subst h7
    have HV : Hid ((a == 3) = R) := by
      show _ = _
      rw [← HR.out, if_neg (by decide), if_neg (by decide), if_neg (by decide), if_neg (by decide), if_pos rfl]; rfl
    go_enter Tryd.func73, Tryd.ntmps73
    go_wp2_with fail
    go_ret
    exact ⟨ret_bool HV.out, rfl⟩
  have b7 : (o == 7) = false := beq_eq_false_iff_ne.2 h7
  have HV : Hid (false = R) := by
    show _ = _
    rw [← HR.out, if_neg h3, if_neg h4, if_neg h5, if_neg h6, if_neg h7]
  clear h3 h4 h5 h6 h7
  go_enter Tryd.func73, Tryd.ntmps73
  go_wp2_with fail
  go_ret
  exact ⟨ret_bool HV.out, rfl⟩
set_option maxHeartbeats 2000000 in
set_option maxRecDepth 100000 in
theorem rassign_any (vs : List Pm) (ls : List ByteArray) (va : Option Addr) (vc : Nat) (la : Option Addr) (lc : Nat) (x : ByteArray) (t : Int) (hv : vs.length ≤ 1000000000000000) (hl : ls.length ≤ 1000000000000000) (w : World) (hP : PmsAt w va vs) (hS : StrsAt w la ls) :
    Calls Tryd.prog 72 #[.agg #[.slice va vs.length vc, .slice la ls.length lc], .string x, .int .i64 t] w fun e' w' => e' = .returned (.int .i64 (asgR vs ls x t)) ∧ Below w.heap.size w w' := by
  have hb := below_box w (.cells #[.slice va vs.length vc, .slice la ls.length lc] 66)
  have hbx := Bx.new w #[.slice va vs.length vc, .slice la ls.length lc] 66
  have HC := Lib.hid (rlookup_any vs va vc x hv _ (hP.below hb))
  have HS := Lib.hid (hS.below hb)
  have HX := Lib.hid hbx
  have HB := Lib.hid hb
  obtain ⟨R, hR⟩ : ∃ R, asgR vs ls x t = R := ⟨_, rfl⟩
  rw [hR]
  unfold asgR at hR
  have HR := Lib.hid hR
  generalize tyV (look vs) x = y at *
  obtain ⟨y1, y2⟩ := y
  obtain ⟨m, hm⟩ : ∃ m, ls.length = m := ⟨_, rfl⟩
  have HL := Lib.hid hm
  rw [hm] at hl HC HS HX HB ⊢
  have x0 := HX.out.cell 0
  have x1 := HX.out.cell 1
  simp only [List.getElem?_toArray, List.getElem?_cons_zero, List.getElem?_cons_succ] at x0 x1
  clear hb hbx hR hm hP hS
  go_enter Tryd.func72, Tryd.ntmps72
  go_wp2_with fail
  refine HC.out.mono ?_; rintro e' w2 ⟨rfl, rfl⟩
  by_cases h0 : y2 = 0
  case neg =>
    have b1 : (y2 != 0) = true := bne_iff_ne.2 h0
    have HV : Hid (y2 = R) := by show _ = _; rw [← HR.out, if_pos h0]
    clear h0
    go_wp2_with fail
    go_ret
    exact ⟨ret_int HV.out, HB.out⟩
  subst h0
  have HI : Hid (isIn x (ls.drop 0) = isIn x ls) := rfl
  go_wp2_with fail
  go_loopw [9] (fun s9 wr => ∃ k : Nat, k ≤ m ∧ s9 = .int .i64 k ∧ Hid (isIn x (ls.drop k) = isIn x ls) ∧ wr = w.alloc (.cells #[.slice va vs.length vc, .slice la m lc] 66)) (fun s9 _ => m - (intOf s9).toNat)
  case atStart => exact ⟨0, Nat.zero_le _, rfl, HI, rfl⟩
  case round =>
    obtain ⟨k, hk, rfl, HXk, rfl⟩ := hrel
    by_cases hlt : k < m
    · have hlx : k < ls.length := by rw [HL.out]; exact hlt
      obtain ⟨b3, i3, rfl, hcc⟩ := HS.out.open hlx
      have f0 := hcc k hlx
      have hx := HXk.out
      rw [isIn_drop hlx] at hx
      generalize ls[k] = q at f0 hx
      have hb := A.bytes_dec q x
      clear hcc
      by_cases hn : q = x
      · rw [decide_eq_true hn] at hb hx
        have HV : Hid (7 = R) := by
          show _ = _
          rw [← HR.out, if_neg (fun z => z rfl), if_pos (by rw [← hx]; rfl)]
        clear hn hx
        go_wp2_with fail
        go_ret
        exact ⟨ret_int HV.out, HB.out⟩
      · rw [decide_eq_false hn] at hb hx
        have HX2 : Hid (isIn x (ls.drop (k + 1)) = isIn x ls) := hx
        clear hn hx
        go_wp2_with fail
        go_roundw
        case rel => exact ⟨k + 1, by omega, by go_num, HX2, trivial⟩
        case measure => simp [intOf]; omega
    · have hx := HXk.out
      rw [List.drop_of_length_le (by have := HL.out; omega)] at hx
      have hR2 := HR.out
      rw [if_neg (fun z => z rfl), ← hx, if_neg (by unfold isIn; simp)] at hR2
      by_cases ht : t = y1
      · subst ht
        have HV : Hid (0 = R) := by show _ = _; rw [← hR2, if_neg (fun z => z rfl)]
        clear hx hR2
        go_wp2_with fail
        go_ret
        exact ⟨ret_int HV.out, HB.out⟩
      · have b2 : (t != y1) = true := bne_iff_ne.2 ht
        have HV : Hid (10 = R) := by show _ = _; rw [← hR2, if_pos ht]
        clear hx hR2 ht
        go_wp2_with fail
        go_ret
        exact ⟨ret_int HV.out, HB.out⟩
end Go.Proofs.YtgjnddjpinhkgaaDoor.Y
namespace Go.Proofs.YtgjnddjpinhkgaaDoor.Y
open Go.RowKit
open L (Str isName prt size_len below_2 below_box ret_bool ret_int eql_eq bytes_eq)
open A (Ex St Pm Pr V arity vE vEs absent exV exO exV_mk Bx okE okEs cE cEs PmsAt StrsAt)
/-- a statement as a value, cell by cell -/
def stF (s : St) (a1 : Option Addr) (c1 : Nat) (a2 : Option Addr) (c2 : Nat) (a3 : Option Addr) (c3 : Nat) (a4 : Option Addr) (c4 : Nat) : Array Value :=
  #[.int .i64 s.op, .string s.name, .int .i64 s.mx, .int .i64 s.a.op, .int .i64 s.a.n, .string s.a.s, .slice a1 s.a.args.length c1, .int .i64 s.b.op, .int .i64 s.b.n, .string s.b.s, .slice a2 s.b.args.length c2, .slice a3 s.body.length c3, .slice a4 s.els.length c4]
set_option maxHeartbeats 4000000 in
set_option maxRecDepth 100000 in
theorem roperands_any (vs : List Pm) (va : Option Addr) (vc : Nat) (la : Option Addr) (ln lc : Nat) (s : St) (a1 : Option Addr) (c1 : Nat) (a2 : Option Addr) (c2 : Nat) (a3 : Option Addr) (c3 : Nat) (a4 : Option Addr) (c4 : Nat) (hv : vs.length ≤ 1000000000000000) (w : World)
    (hoa : okE s.a) (hob : okE s.b) (hP : PmsAt w va vs) (hA : A.Kids w a1 s.a.args) (hB : A.Kids w a2 s.b.args) :
    Calls Tryd.prog 71 #[.agg #[.slice va vs.length vc, .slice la ln lc], .agg (stF s a1 c1 a2 c2 a3 c3 a4 c4)] w
      fun e' w' => e' = .returned (.tuple #[.int .i64 (opsR vs s.op s.a s.b).1, .int .i64 (opsR vs s.op s.a s.b).2.1, .int .i64 (opsR vs s.op s.a s.b).2.2]) ∧ Below w.heap.size w w' := by
  have hb1 := below_box w (.cells #[.slice va vs.length vc, .slice la ln lc] 66)
  have hb2 := below_box (w.alloc (.cells #[.slice va vs.length vc, .slice la ln lc] 66)) (.cells (stF s a1 c1 a2 c2 a3 c3 a4 c4) 56)
  have hz : (w.alloc (.cells #[.slice va vs.length vc, .slice la ln lc] 66)).heap.size = w.heap.size + 1 := by simp
  have hbx1 := (Bx.new w #[.slice va vs.length vc, .slice la ln lc] 66).below hb2
  have hbx2 := Bx.new (w.alloc (.cells #[.slice va vs.length vc, .slice la ln lc] 66)) (stF s a1 c1 a2 c2 a3 c3 a4 c4) 56
  rw [hz] at hbx2
  have hb := below_2 hb1 hb2
  have HX1 := Lib.hid hbx1
  have HX2 := Lib.hid hbx2
  have HB := Lib.hid hb
  have HA : Hid (∀ w', Below w.heap.size w w' → Calls Tryd.prog 39 #[exV s.a a1 c1, .slice va vs.length vc] w' fun e' w'' => e' = .returned (.tuple #[.int .i64 (ofE (look vs) s.a).1, .int .i64 (ofE (look vs) s.a).2]) ∧ Below w'.heap.size w' w'') :=
    fun w' h => rOf_any s.a a1 c1 vs va vc hoa hv w' (hA.below h) (hP.below h)
  have HBb : Hid (∀ w', Below w.heap.size w w' → Calls Tryd.prog 39 #[exV s.b a2 c2, .slice va vs.length vc] w' fun e' w'' => e' = .returned (.tuple #[.int .i64 (ofE (look vs) s.b).1, .int .i64 (ofE (look vs) s.b).2]) ∧ Below w'.heap.size w' w'') :=
    fun w' h => rOf_any s.b a2 c2 vs va vc hob hv w' (hB.below h) (hP.below h)
  obtain ⟨R, hR⟩ : ∃ R, opsR vs s.op s.a s.b = R := ⟨_, rfl⟩
  rw [hR]
  unfold opsR at hR
  generalize ofE (look vs) s.a = y at *
  generalize ofE (look vs) s.b = z at *
  have HR := Lib.hid hR
  obtain ⟨y1, y2⟩ := y
  obtain ⟨z1, z2⟩ := z
  unfold stF at *
  unfold exV at HA HBb
  have x0 := HX1.out.cell 0
  have g0 := HX2.out.cell 0
  have g3 := HX2.out.cell 3
  have g4 := HX2.out.cell 4
  have g5 := HX2.out.cell 5
  have g6 := HX2.out.cell 6
  simp only [List.getElem?_toArray, List.getElem?_cons_zero, List.getElem?_cons_succ] at x0 g0 g3 g4 g5 g6
  clear hb1 hb2 hz hbx1 hbx2 hb hoa hob hP hA hB hR hv
  generalize s.op = o at *
  by_cases h8 : o = 8
  · subst h8
    have HV : Hid ((0, 0, 0) = R) := by show _ = _; rw [← HR.out, if_pos rfl]
    go_enter Tryd.func71, Tryd.ntmps71
    go_wp2_with fail
    refine bodyPost_ret (v := .tuple #[.int .i64 0, .int .i64 0, .int .i64 0]) (by simp [results, Tryd.results71, go_sem]) rfl ?_
    exact ⟨by rw [← HV.out], HB.out⟩
  have b8 : (o == 8) = false := beq_eq_false_iff_ne.2 h8
  go_enter Tryd.func71, Tryd.ntmps71
  go_wp2_with fail
  refine (HA.out _ HB.out).mono ?_; rintro e' w2 ⟨rfl, hb2⟩
  have HB2 := Lib.hid (below_2 HB.out hb2)
  have hx2 := HX2.out.below hb2
  have hx1 := HX1.out.below hb2
  have x0' := hx1.cell 0
  have g0' := hx2.cell 0
  have g7 := hx2.cell 7
  have g8 := hx2.cell 8
  have g9 := hx2.cell 9
  have g10 := hx2.cell 10
  simp only [List.getElem?_toArray, List.getElem?_cons_zero, List.getElem?_cons_succ] at x0' g0' g7 g8 g9 g10
  clear hx1 hx2 hb2 x0 g0 g3 g4 g5 g6
  by_cases hy : y2 = 0
  case neg =>
    have b1 : (y2 != 0) = true := bne_iff_ne.2 hy
    have HV : Hid ((y1, 0, y2) = R) := by show _ = _; rw [← HR.out, if_neg h8, if_pos (Or.inl hy)]
    clear hy h8
    go_wp2_with fail
    refine bodyPost_ret (v := .tuple #[.int .i64 y1, .int .i64 0, .int .i64 y2]) (by simp [results, Tryd.results71, go_sem]) rfl ?_
    exact ⟨by rw [← HV.out], HB2.out⟩
  subst hy
  by_cases h3 : o = 3
  · subst h3
    have HV : Hid ((y1, z1, z2) = R) := by show _ = _; rw [← HR.out, if_neg h8, if_neg (fun h => h.elim (fun z => z rfl) (fun z => z.1 rfl))]
    clear h8
    go_wp2_with fail
    refine (HBb.out _ HB2.out).mono ?_; rintro e' w3 ⟨rfl, hb3⟩
    have HB3 := Lib.hid (below_2 HB2.out hb3)
    clear hb3
    go_wp2_with fail
    refine bodyPost_ret (v := .tuple #[.int .i64 y1, .int .i64 z1, .int .i64 z2]) (by simp [results, Tryd.results71, go_sem]) rfl ?_
    exact ⟨by rw [← HV.out], HB3.out⟩
  have e3 : (o != 3) = true := bne_iff_ne.2 h3
  by_cases h6 : o = 6
  · subst h6
    have HV : Hid ((y1, z1, z2) = R) := by show _ = _; rw [← HR.out, if_neg h8, if_neg (fun h => h.elim (fun z => z rfl) (fun z => z.2 rfl))]
    clear h8 h3
    go_wp2_with fail
    refine (HBb.out _ HB2.out).mono ?_; rintro e' w3 ⟨rfl, hb3⟩
    have HB3 := Lib.hid (below_2 HB2.out hb3)
    clear hb3
    go_wp2_with fail
    refine bodyPost_ret (v := .tuple #[.int .i64 y1, .int .i64 z1, .int .i64 z2]) (by simp [results, Tryd.results71, go_sem]) rfl ?_
    exact ⟨by rw [← HV.out], HB3.out⟩
  have e6 : (o != 6) = true := bne_iff_ne.2 h6
  have HV : Hid ((y1, 0, 0) = R) := by show _ = _; rw [← HR.out, if_neg h8, if_pos (Or.inr ⟨h3, h6⟩)]
  clear h8 h3 h6
  go_wp2_with fail
  refine bodyPost_ret (v := .tuple #[.int .i64 y1, .int .i64 0, .int .i64 0]) (by simp [results, Tryd.results71, go_sem]) rfl ?_
  exact ⟨by rw [← HV.out], HB2.out⟩
end Go.Proofs.YtgjnddjpinhkgaaDoor.Y
namespace Go.Proofs.YtgjnddjpinhkgaaDoor.Y
open Go.RowKit
open L (Str isName prt size_len below_2 below_box ret_bool ret_int eql_eq bytes_eq)
open A (Ex St Pm Pr exV exO Bx okE PmsAt StrsAt RowK Own1 Stays kN)
/-- the three boxes of a call, and what lies below them -/
structure SW (w0 w : World) (x0 x1 c0 c1 : Value) : Prop where
  bel : Below w0.heap.size w0 w
  sz : w0.heap.size + 3 ≤ w.heap.size
  b1 : Bx w w0.heap.size #[x0, x1] 66
  b2 : Bx w (w0.heap.size + 1) #[.slice none 0 0, .slice none 0 0] 66
  b3 : Bx w (w0.heap.size + 1 + 1) #[c0, c1] 66
namespace SW
variable {w0 w w' : World} {x0 x1 c0 c1 : Value}
theorem new (w0 : World) (x0 x1 : Value) : SW w0 (((w0.alloc (.cells #[x0, x1] 66)).alloc (.cells #[.slice none 0 0, .slice none 0 0] 66)).alloc (.cells #[.slice none 0 0, .slice none 0 0] 66)) x0 x1 (.slice none 0 0) (.slice none 0 0) := by
  have h1 := below_box w0 (.cells #[x0, x1] 66)
  have h2 := below_box (w0.alloc (.cells #[x0, x1] 66)) (.cells #[.slice none 0 0, .slice none 0 0] 66)
  have h3 := below_box ((w0.alloc (.cells #[x0, x1] 66)).alloc (.cells #[.slice none 0 0, .slice none 0 0] 66)) (.cells #[.slice none 0 0, .slice none 0 0] 66)
  have z1 : (w0.alloc (.cells #[x0, x1] 66)).heap.size = w0.heap.size + 1 := by simp
  have z2 : ((w0.alloc (.cells #[x0, x1] 66)).alloc (.cells #[.slice none 0 0, .slice none 0 0] 66)).heap.size = w0.heap.size + 1 + 1 := by simp
  have q2 := Bx.new (w0.alloc (.cells #[x0, x1] 66)) #[.slice none 0 0, .slice none 0 0] 66
  have q3 := Bx.new ((w0.alloc (.cells #[x0, x1] 66)).alloc (.cells #[.slice none 0 0, .slice none 0 0] 66)) #[.slice none 0 0, .slice none 0 0] 66
  rw [z1] at q2
  rw [z2] at q3
  exact ⟨below_2 (below_2 h1 h2) h3, by simp, ((Bx.new w0 _ _).below h2).below h3, q2.below h3, q3⟩
theorem kept (h : SW w0 w x0 x1 c0 c1) {own : Option Nat} (hg : w.grownBy w' own) (ho : ∀ g, own = some g → w0.heap.size + 3 ≤ g) : SW w0 w' x0 x1 c0 c1 := by
  have hsz := h.sz
  have hs := hg.size
  have hk : ∀ k, k < w0.heap.size + 3 → w'.heap[k]? = w.heap[k]? := fun k hk => hg.block k (by omega) (fun e => by have := ho k e.symm; omega)
  exact ⟨h.bel.grown hg (by omega) (fun g hgo => by have := ho g hgo; omega), by omega, h.b1.keep (hk _ (by omega)), h.b2.keep (hk _ (by omega)), h.b3.keep (hk _ (by omega))⟩
theorem alloc (h : SW w0 w x0 x1 c0 c1) (o : Obj) : SW w0 (w.alloc o) x0 x1 c0 c1 := by
  have hb := below_box w o
  have hs := hb.size
  have hsz := h.sz
  exact ⟨h.bel.trans (hb.mono h.bel.size), by omega, h.b1.below hb, h.b2.below hb, h.b3.below hb⟩
theorem put0 (h : SW w0 w x0 x1 c0 c1) (v : Value) : SW w0 (w.setCell ⟨w0.heap.size + 1 + 1, 0, none⟩ v) x0 x1 v c1 := by
  have hsz := h.sz
  exact ⟨h.bel.setCell (by show w0.heap.size ≤ w0.heap.size + 1 + 1; omega) _, by simpa using hsz, h.b1.keep (Below.heap_setCell _ _ _ _ (by show w0.heap.size ≠ w0.heap.size + 1 + 1; omega)), h.b2.keep (Below.heap_setCell _ _ _ _ (by show w0.heap.size + 1 ≠ w0.heap.size + 1 + 1; omega)), h.b3.set 0⟩
theorem put1 (h : SW w0 w x0 x1 c0 c1) (v : Value) : SW w0 (w.setCell ⟨w0.heap.size + 1 + 1, 1, none⟩ v) x0 x1 c0 v := by
  have hsz := h.sz
  exact ⟨h.bel.setCell (by show w0.heap.size ≤ w0.heap.size + 1 + 1; omega) _, by simpa using hsz, h.b1.keep (Below.heap_setCell _ _ _ _ (by show w0.heap.size ≠ w0.heap.size + 1 + 1; omega)), h.b2.keep (Below.heap_setCell _ _ _ _ (by show w0.heap.size + 1 ≠ w0.heap.size + 1 + 1; omega)), h.b3.set 1⟩
end SW
/-- a row of the call's own is not touched by a cell of its boxes -/
theorem own_put {α : Type} {K : RowK α} {w : World} {N b0 i : Nat} {v u : Value} {l : List α} (h : Own1 K w b0 (fun j => j < N + 3) v l) : Own1 K (w.setCell ⟨N + 1 + 1, i, none⟩ u) b0 (fun j => j < N + 3) v l :=
  h.next ⟨fun k _ hz => Below.heap_setCell _ _ _ _ (fun e => hz (by have : k = N + 1 + 1 := e; show k < N + 3; omega)), fun _ hk => Or.inl hk⟩
def GivesW (w : World) (vs : List Pm) (ls : List ByteArray) (e' : Ending) (w' : World) : Prop :=
  ∃ p q p2 q2, e' = .returned (.agg #[.slice p vs.length q, .slice p2 ls.length q2]) ∧ PmsAt w' p vs ∧ StrsAt w' p2 ls ∧ (∀ g i, p = some ⟨g, i, none⟩ → w.heap.size ≤ g) ∧ (∀ g i, p2 = some ⟨g, i, none⟩ → w.heap.size ≤ g) ∧ Below w.heap.size w w'
set_option maxHeartbeats 4000000 in
set_option maxRecDepth 100000 in
theorem rwith_any (vs : List Pm) (ls : List ByteArray) (va : Option Addr) (vc : Nat) (la : Option Addr) (lc : Nat) (x : ByteArray) (t : Int) (b : Bool) (hv : vs.length ≤ 100000) (hl : ls.length ≤ 100000) (w : World) (hP : PmsAt w va vs) (hS : StrsAt w la ls) :
    Calls Tryd.prog 36 #[.agg #[.slice va vs.length vc, .slice la ls.length lc], .string x, .int .i64 t, .bool b] w (GivesW w (vs ++ [⟨x, t⟩]) (if b = true then ls ++ [x] else ls)) := by
  have hw := SW.new w (.slice va vs.length vc) (.slice la ls.length lc)
  have HW := Lib.hid hw
  have HZ : Hid ((((w.alloc (.cells #[.slice va vs.length vc, .slice la ls.length lc] 66)).alloc (.cells #[.slice none 0 0, .slice none 0 0] 66)).alloc (.cells #[.slice none 0 0, .slice none 0 0] 66)).heap.size = w.heap.size + 3) := by show _ = _; simp
  have HP := Lib.hid (fun w' (h : Below w.heap.size w w') => hP.below h)
  have HS := Lib.hid (fun w' (h : Below w.heap.size w w') => hS.below h)
  have LV : Hid (([] : List Pm).length + vs.length ≤ 1000000) := by show _ ≤ _; simp; omega
  have LS : Hid (([] : List ByteArray).length + ls.length ≤ 1000000) := by show _ ≤ _; simp; omega
  have HV := Lib.hid hv
  have HLs := Lib.hid hl
  obtain ⟨n, hn⟩ : ∃ n, vs.length = n := ⟨_, rfl⟩
  have HN := Lib.hid hn
  obtain ⟨m, hm⟩ : ∃ m, ls.length = m := ⟨_, rfl⟩
  have HM := Lib.hid hm
  rw [hn, hm] at HW HZ ⊢
  clear hn hm hP hS hw hv hl
  generalize hW3 : ((w.alloc (.cells #[.slice va n vc, .slice la m lc] 66)).alloc (.cells #[.slice none 0 0, .slice none 0 0] 66)).alloc (.cells #[.slice none 0 0, .slice none 0 0] 66) = W3 at HW HZ
  go_enter Tryd.func36, Tryd.ntmps36
  have d0 := HW.out.b1.cell 0
  have d1 := HW.out.b1.cell 1
  have d2 := HW.out.b3.cell 0
  have d3 := HW.out.b3.cell 1
  have d4 := HW.out.b3.free 0
  simp only [List.getElem?_toArray, List.getElem?_cons_zero, List.getElem?_cons_succ] at d0 d1 d2 d3
  cases b with
  | false =>
    go_wp2_with (at_builtin; first
    | (refine wpList_append_pms rfl (.tmp 11) (.tmp 13) rfl (w.heap.size + 3) (fun j => j < w.heap.size + 3) none 0 0 [] vs rfl rfl Own1.nil va n vc HN.out.symm rfl (HP.out _ HW.out.bel) LV.out (by rw [HZ.out]; exact Nat.le_refl _) (fun _ h => h) ?_; intro p4 q4 w4 hown4 hgrow4; have HO4 : Hid (Own1 kP w4 (w.heap.size + 3) (fun j => j < w.heap.size + 3) (.slice p4 vs.length q4) vs) := hown4; have HW4 := Lib.hid (HW.out.kept hgrow4 (fun g hg => by cases hg)); have a0 := HW4.out.b3.cell 0; have a1 := HW4.out.b3.cell 1; have a2 := HW4.out.b3.free 0; have a3 := HW4.out.b1.cell 1; simp only [List.getElem?_toArray, List.getElem?_cons_zero, List.getElem?_cons_succ] at a0 a1 a3; have HW4' := Lib.hid (HW4.out.put0 (.slice p4 vs.length q4)); have HO4' := Lib.hid (own_put (i := 0) (u := .slice p4 vs.length q4) HO4.out); rw [HN.out] at HW4' HO4' HO4; rw [Nat.zero_add]; clear hown4 hgrow4)
    | (refine kP.wpList rfl (.tmp 17) (.tmp 21) rfl (w.heap.size + 3) (.slice p4 n q4) vs rfl HO4'.out.row ⟨x, t⟩ _ rfl w4.heap.size rfl (by simp) (by have := HV.out; omega) HW4'.out.sz ?_; intro g5 c5 w5 hown5 hgrow5 hlie5; have HO5 := Lib.hid (HO4'.out.push (y := ⟨x, t⟩) trivial (fun k hk => Nat.lt_of_lt_of_le hk HW4'.out.sz) hown5 hgrow5 hlie5); have HW5 := Lib.hid ((HW4'.out.alloc _).kept hgrow5 (fun g hg => (HO4'.out.lt g hg).1)); have b0 := HW5.out.b3.cell 0; have b1 := HW5.out.b3.cell 1; have b2 := HW5.out.b3.free 0; have b3 := HW5.out.b1.cell 1; simp only [List.getElem?_toArray, List.getElem?_cons_zero, List.getElem?_cons_succ] at b0 b1 b3; clear hown5 hgrow5 hlie5; have HW5' := Lib.hid (HW5.out.put0 (.slice (some ⟨g5, 0, none⟩) (vs.length + 1) c5)); have HO5' := Lib.hid (own_put (i := 0) (u := .slice (some ⟨g5, 0, none⟩) (vs.length + 1) c5) HO5.out); rw [HN.out] at HW5' HO5' HO5 ⊢)
    | (refine wpList_append_strs rfl (.tmp 25) (.tmp 27) rfl (w5.setCell ⟨w.heap.size + 1 + 1, 0, none⟩ (.slice (some ⟨g5, 0, none⟩) (n + 1) c5)).heap.size (fun j => j < w.heap.size + 3) none 0 0 [] ls rfl rfl Own1.nil la m lc HM.out.symm rfl (HS.out _ HW5'.out.bel) LS.out (Nat.le_refl _) (fun k hk => Nat.lt_of_lt_of_le hk HW5'.out.sz) ?_; intro p6 q6 w6 hown6 hgrow6; have HO6 : Hid (Own1 kN w6 (w5.setCell ⟨w.heap.size + 1 + 1, 0, none⟩ (.slice (some ⟨g5, 0, none⟩) (n + 1) c5)).heap.size (fun j => j < w.heap.size + 3) (.slice p6 ls.length q6) ls) := hown6; have HW6 := Lib.hid (HW5'.out.kept hgrow6 (fun g hg => by cases hg)); have HT6 : Hid (∀ k, w.heap.size + 3 ≤ k → k < (w5.setCell ⟨w.heap.size + 1 + 1, 0, none⟩ (.slice (some ⟨g5, 0, none⟩) (n + 1) c5)).heap.size → w6.heap[k]? = (w5.setCell ⟨w.heap.size + 1 + 1, 0, none⟩ (.slice (some ⟨g5, 0, none⟩) (n + 1) c5)).heap[k]?) := (fun k _ hk => hgrow6.block k hk (fun e => by cases e)); have HG6 : Hid ((w5.setCell ⟨w.heap.size + 1 + 1, 0, none⟩ (.slice (some ⟨g5, 0, none⟩) (n + 1) c5)).heap.size ≤ w6.heap.size) := hgrow6.size; have k0 := HW6.out.b3.cell 0; have k1 := HW6.out.b3.cell 1; have k2 := HW6.out.b3.free 1; have e0 := HW6.out.b2.cell 0; have e1 := HW6.out.b2.cell 1; have e2 := HW6.out.b2.free 0; have e3 := HW6.out.b2.free 1; simp only [List.getElem?_toArray, List.getElem?_cons_zero, List.getElem?_cons_succ] at k0 k1 e0 e1; have HW6' := Lib.hid (HW6.out.put1 (.slice p6 ls.length q6)); have HO6' := Lib.hid (own_put (i := 1) (u := .slice p6 ls.length q6) HO6.out); rw [HM.out] at HW6' HO6' HO6; rw [Nat.zero_add]; clear hown6 hgrow6)
    | (refine kN.wpList rfl (.tmp 32) (.tmp 34) rfl (w5.setCell ⟨w.heap.size + 1 + 1, 0, none⟩ (.slice (some ⟨g5, 0, none⟩) (n + 1) c5)).heap.size (.slice p6 m q6) ls rfl HO6'.out.row x _ rfl w6.heap.size rfl (by simp) (by have := HLs.out; omega) (by have := HG6.out; simp only [World.size_setCell] at this ⊢; exact this) ?_; intro g7 c7 w7 hown7 hgrow7 hlie7; have HO7 := Lib.hid (HO6'.out.push (y := x) trivial (fun k hk => Nat.lt_of_lt_of_le hk HW6'.out.sz) hown7 hgrow7 hlie7); have HW7 := Lib.hid ((HW6'.out.alloc _).kept hgrow7 (fun g hg => Nat.le_trans HW5'.out.sz (HO6'.out.lt g hg).1)); have HT7 : Hid (∀ k, w.heap.size + 3 ≤ k → k < (w5.setCell ⟨w.heap.size + 1 + 1, 0, none⟩ (.slice (some ⟨g5, 0, none⟩) (n + 1) c5)).heap.size → w7.heap[k]? = (w5.setCell ⟨w.heap.size + 1 + 1, 0, none⟩ (.slice (some ⟨g5, 0, none⟩) (n + 1) c5)).heap[k]?) := (fun k h1 h2 => by have hg := HG6.out; have hs : (w6.setCell ⟨w.heap.size + 1 + 1, 1, none⟩ (.slice p6 m q6)).heap.size = w6.heap.size := (by simp); refine ((hgrow7.block k (by simp only [World.size_alloc]; omega) (fun e => by have := (HO6'.out.lt k e.symm).1; omega)).trans (Below.heap_alloc _ _ k (by omega))).trans ?_; rw [Below.heap_setCell _ _ _ _ (by show k ≠ w.heap.size + 1 + 1; omega)]; exact HT6.out k h1 h2); have k3 := HW7.out.b3.cell 0; have k4 := HW7.out.b3.cell 1; have k5 := HW7.out.b3.free 1; have e4 := HW7.out.b2.cell 0; have e5 := HW7.out.b2.cell 1; have e6 := HW7.out.b2.free 0; have e7 := HW7.out.b2.free 1; simp only [List.getElem?_toArray, List.getElem?_cons_zero, List.getElem?_cons_succ] at k3 k4 e4 e5; clear hown7 hgrow7 hlie7; rw [HM.out] at HO7 ⊢))
    have hq := HW6'.out.b2.set 0 (u := (.slice (some ⟨g5, 0, none⟩) (n + 1) c5))
    have q0 := hq.cell 0
    have q1 := (hq.set 1 (u := (.slice p6 m q6))).cell 1
    simp at q0 q1
    have HR6 : Hid (Own1 kN (w6.setCell ⟨w.heap.size + 1 + 1, 1, none⟩ (.slice p6 m q6)) (w5.setCell ⟨w.heap.size + 1 + 1, 0, none⟩ (.slice (some ⟨g5, 0, none⟩) (n + 1) c5)).heap.size (fun j => j < w.heap.size + 3) (.slice p6 ls.length q6) ls) := by show Own1 _ _ _ _ _ _; rw [HM.out]; exact HO6'.out
    have HT8 : Hid (∀ k, w.heap.size + 3 ≤ k → k < (w5.setCell ⟨w.heap.size + 1 + 1, 0, none⟩ (.slice (some ⟨g5, 0, none⟩) (n + 1) c5)).heap.size → (((w6.setCell ⟨w.heap.size + 1 + 1, 1, none⟩ (.slice p6 m q6)).setCell ⟨w.heap.size + 1, 0, none⟩ (.slice (some ⟨g5, 0, none⟩) (n + 1) c5)).setCell ⟨w.heap.size + 1, 1, none⟩ (.slice p6 m q6)).heap[k]? = (w5.setCell ⟨w.heap.size + 1 + 1, 0, none⟩ (.slice (some ⟨g5, 0, none⟩) (n + 1) c5)).heap[k]?) := fun k h1 h2 => by
      rw [Below.heap_setCell _ _ _ _ (by show k ≠ w.heap.size + 1; omega), Below.heap_setCell _ _ _ _ (by show k ≠ w.heap.size + 1; omega), Below.heap_setCell _ _ _ _ (by show k ≠ w.heap.size + 1 + 1; omega)]
      exact HT6.out k h1 h2
    refine bodyPost_ret (v := .agg #[(.slice (some ⟨g5, 0, none⟩) (n + 1) c5), (.slice p6 m q6)]) (by simp [results, Tryd.results36, go_sem, q0, q1]) rfl ?_
    have hl5 : (vs ++ [(⟨x, t⟩ : Pm)]).length = n + 1 := by rw [List.length_append, HN.out]; rfl
    have hr5 : Own1 kP (w5.setCell ⟨w.heap.size + 1 + 1, 0, none⟩ (.slice (some ⟨g5, 0, none⟩) (n + 1) c5)) (w.heap.size + 3) (fun j => j < w.heap.size + 3) (.slice (some ⟨g5, 0, none⟩) (vs ++ [(⟨x, t⟩ : Pm)]).length c5) (vs ++ [⟨x, t⟩]) := by rw [hl5]; exact HO5'.out
    have hlx : (ls).length = m := by rw [HM.out]
    show GivesW w (vs ++ [⟨x, t⟩]) (ls) _ _
    refine ⟨some ⟨g5, 0, none⟩, c5, p6, q6, by rw [hl5, hlx], own_pms (hr5.next (Z' := (fun j => j < w.heap.size + 3)) ⟨fun k hk hz => HT8.out k (Nat.le_of_not_lt hz) hk, fun _ h => Or.inl h⟩), ?_, (fun g i hg => by have := (HO5'.out.lt g (by injection hg with h; injection h with h; rw [h]; rfl)).1; omega), (fun g i hg => by have := (HR6.out.lt g (by rw [hg]; rfl)).1; have h2 := HW5'.out.sz; omega), ?_⟩
    · refine A.Own1.strs (HR6.out.next (Z' := (fun j => j < w.heap.size + 3)) ⟨fun k _ hz => ?_, fun _ h => Or.inl h⟩)
      have hne : k ≠ w.heap.size + 1 := fun e => hz (by show k < w.heap.size + 3; omega)
      rw [Below.heap_setCell _ _ _ _ hne, Below.heap_setCell _ _ _ _ hne]
    · exact (HW6'.out.bel.setCell (p := ⟨w.heap.size + 1, 0, none⟩) (Nat.le_succ _) _).setCell (p := ⟨w.heap.size + 1, 1, none⟩) (Nat.le_succ _) _
  | true =>
    go_wp2_with (at_builtin; first
    | (refine wpList_append_pms rfl (.tmp 11) (.tmp 13) rfl (w.heap.size + 3) (fun j => j < w.heap.size + 3) none 0 0 [] vs rfl rfl Own1.nil va n vc HN.out.symm rfl (HP.out _ HW.out.bel) LV.out (by rw [HZ.out]; exact Nat.le_refl _) (fun _ h => h) ?_; intro p4 q4 w4 hown4 hgrow4; have HO4 : Hid (Own1 kP w4 (w.heap.size + 3) (fun j => j < w.heap.size + 3) (.slice p4 vs.length q4) vs) := hown4; have HW4 := Lib.hid (HW.out.kept hgrow4 (fun g hg => by cases hg)); have a0 := HW4.out.b3.cell 0; have a1 := HW4.out.b3.cell 1; have a2 := HW4.out.b3.free 0; have a3 := HW4.out.b1.cell 1; simp only [List.getElem?_toArray, List.getElem?_cons_zero, List.getElem?_cons_succ] at a0 a1 a3; have HW4' := Lib.hid (HW4.out.put0 (.slice p4 vs.length q4)); have HO4' := Lib.hid (own_put (i := 0) (u := .slice p4 vs.length q4) HO4.out); rw [HN.out] at HW4' HO4' HO4; rw [Nat.zero_add]; clear hown4 hgrow4)
    | (refine kP.wpList rfl (.tmp 17) (.tmp 21) rfl (w.heap.size + 3) (.slice p4 n q4) vs rfl HO4'.out.row ⟨x, t⟩ _ rfl w4.heap.size rfl (by simp) (by have := HV.out; omega) HW4'.out.sz ?_; intro g5 c5 w5 hown5 hgrow5 hlie5; have HO5 := Lib.hid (HO4'.out.push (y := ⟨x, t⟩) trivial (fun k hk => Nat.lt_of_lt_of_le hk HW4'.out.sz) hown5 hgrow5 hlie5); have HW5 := Lib.hid ((HW4'.out.alloc _).kept hgrow5 (fun g hg => (HO4'.out.lt g hg).1)); have b0 := HW5.out.b3.cell 0; have b1 := HW5.out.b3.cell 1; have b2 := HW5.out.b3.free 0; have b3 := HW5.out.b1.cell 1; simp only [List.getElem?_toArray, List.getElem?_cons_zero, List.getElem?_cons_succ] at b0 b1 b3; clear hown5 hgrow5 hlie5; have HW5' := Lib.hid (HW5.out.put0 (.slice (some ⟨g5, 0, none⟩) (vs.length + 1) c5)); have HO5' := Lib.hid (own_put (i := 0) (u := .slice (some ⟨g5, 0, none⟩) (vs.length + 1) c5) HO5.out); rw [HN.out] at HW5' HO5' HO5 ⊢)
    | (refine wpList_append_strs rfl (.tmp 25) (.tmp 27) rfl (w5.setCell ⟨w.heap.size + 1 + 1, 0, none⟩ (.slice (some ⟨g5, 0, none⟩) (n + 1) c5)).heap.size (fun j => j < w.heap.size + 3) none 0 0 [] ls rfl rfl Own1.nil la m lc HM.out.symm rfl (HS.out _ HW5'.out.bel) LS.out (Nat.le_refl _) (fun k hk => Nat.lt_of_lt_of_le hk HW5'.out.sz) ?_; intro p6 q6 w6 hown6 hgrow6; have HO6 : Hid (Own1 kN w6 (w5.setCell ⟨w.heap.size + 1 + 1, 0, none⟩ (.slice (some ⟨g5, 0, none⟩) (n + 1) c5)).heap.size (fun j => j < w.heap.size + 3) (.slice p6 ls.length q6) ls) := hown6; have HW6 := Lib.hid (HW5'.out.kept hgrow6 (fun g hg => by cases hg)); have HT6 : Hid (∀ k, w.heap.size + 3 ≤ k → k < (w5.setCell ⟨w.heap.size + 1 + 1, 0, none⟩ (.slice (some ⟨g5, 0, none⟩) (n + 1) c5)).heap.size → w6.heap[k]? = (w5.setCell ⟨w.heap.size + 1 + 1, 0, none⟩ (.slice (some ⟨g5, 0, none⟩) (n + 1) c5)).heap[k]?) := (fun k _ hk => hgrow6.block k hk (fun e => by cases e)); have HG6 : Hid ((w5.setCell ⟨w.heap.size + 1 + 1, 0, none⟩ (.slice (some ⟨g5, 0, none⟩) (n + 1) c5)).heap.size ≤ w6.heap.size) := hgrow6.size; have k0 := HW6.out.b3.cell 0; have k1 := HW6.out.b3.cell 1; have k2 := HW6.out.b3.free 1; have e0 := HW6.out.b2.cell 0; have e1 := HW6.out.b2.cell 1; have e2 := HW6.out.b2.free 0; have e3 := HW6.out.b2.free 1; simp only [List.getElem?_toArray, List.getElem?_cons_zero, List.getElem?_cons_succ] at k0 k1 e0 e1; have HW6' := Lib.hid (HW6.out.put1 (.slice p6 ls.length q6)); have HO6' := Lib.hid (own_put (i := 1) (u := .slice p6 ls.length q6) HO6.out); rw [HM.out] at HW6' HO6' HO6; rw [Nat.zero_add]; clear hown6 hgrow6)
    | (refine kN.wpList rfl (.tmp 32) (.tmp 34) rfl (w5.setCell ⟨w.heap.size + 1 + 1, 0, none⟩ (.slice (some ⟨g5, 0, none⟩) (n + 1) c5)).heap.size (.slice p6 m q6) ls rfl HO6'.out.row x _ rfl w6.heap.size rfl (by simp) (by have := HLs.out; omega) (by have := HG6.out; simp only [World.size_setCell] at this ⊢; exact this) ?_; intro g7 c7 w7 hown7 hgrow7 hlie7; have HO7 := Lib.hid (HO6'.out.push (y := x) trivial (fun k hk => Nat.lt_of_lt_of_le hk HW6'.out.sz) hown7 hgrow7 hlie7); have HW7 := Lib.hid ((HW6'.out.alloc _).kept hgrow7 (fun g hg => Nat.le_trans HW5'.out.sz (HO6'.out.lt g hg).1)); have HT7 : Hid (∀ k, w.heap.size + 3 ≤ k → k < (w5.setCell ⟨w.heap.size + 1 + 1, 0, none⟩ (.slice (some ⟨g5, 0, none⟩) (n + 1) c5)).heap.size → w7.heap[k]? = (w5.setCell ⟨w.heap.size + 1 + 1, 0, none⟩ (.slice (some ⟨g5, 0, none⟩) (n + 1) c5)).heap[k]?) := (fun k h1 h2 => by have hg := HG6.out; have hs : (w6.setCell ⟨w.heap.size + 1 + 1, 1, none⟩ (.slice p6 m q6)).heap.size = w6.heap.size := (by simp); refine ((hgrow7.block k (by simp only [World.size_alloc]; omega) (fun e => by have := (HO6'.out.lt k e.symm).1; omega)).trans (Below.heap_alloc _ _ k (by omega))).trans ?_; rw [Below.heap_setCell _ _ _ _ (by show k ≠ w.heap.size + 1 + 1; omega)]; exact HT6.out k h1 h2); have k3 := HW7.out.b3.cell 0; have k4 := HW7.out.b3.cell 1; have k5 := HW7.out.b3.free 1; have e4 := HW7.out.b2.cell 0; have e5 := HW7.out.b2.cell 1; have e6 := HW7.out.b2.free 0; have e7 := HW7.out.b2.free 1; simp only [List.getElem?_toArray, List.getElem?_cons_zero, List.getElem?_cons_succ] at k3 k4 e4 e5; clear hown7 hgrow7 hlie7; rw [HM.out] at HO7 ⊢))
    have hl7 : (ls ++ [x]).length = m + 1 := by rw [List.length_append, HM.out]; rfl
    have HR6 : Hid (Own1 kN (w7.setCell ⟨w.heap.size + 1 + 1, 1, none⟩ (.slice (some ⟨g7, 0, none⟩) (m + 1) c7)) (w5.setCell ⟨w.heap.size + 1 + 1, 0, none⟩ (.slice (some ⟨g5, 0, none⟩) (n + 1) c5)).heap.size (fun j => j < w.heap.size + 3) (.slice (some ⟨g7, 0, none⟩) (ls ++ [x]).length c7) (ls ++ [x])) := by show Own1 _ _ _ _ _ _; rw [hl7]; exact own_put (i := 1) (u := .slice (some ⟨g7, 0, none⟩) (m + 1) c7) HO7.out
    have HW7' := Lib.hid (HW7.out.put1 (.slice (some ⟨g7, 0, none⟩) (m + 1) c7))
    have hq := HW7'.out.b2.set 0 (u := (.slice (some ⟨g5, 0, none⟩) (n + 1) c5))
    have q0 := hq.cell 0
    have q1 := (hq.set 1 (u := (.slice (some ⟨g7, 0, none⟩) (m + 1) c7))).cell 1
    simp at q0 q1
    have HT8 : Hid (∀ k, w.heap.size + 3 ≤ k → k < (w5.setCell ⟨w.heap.size + 1 + 1, 0, none⟩ (.slice (some ⟨g5, 0, none⟩) (n + 1) c5)).heap.size → (((w7.setCell ⟨w.heap.size + 1 + 1, 1, none⟩ (.slice (some ⟨g7, 0, none⟩) (m + 1) c7)).setCell ⟨w.heap.size + 1, 0, none⟩ (.slice (some ⟨g5, 0, none⟩) (n + 1) c5)).setCell ⟨w.heap.size + 1, 1, none⟩ (.slice (some ⟨g7, 0, none⟩) (m + 1) c7)).heap[k]? = (w5.setCell ⟨w.heap.size + 1 + 1, 0, none⟩ (.slice (some ⟨g5, 0, none⟩) (n + 1) c5)).heap[k]?) := fun k h1 h2 => by
      rw [Below.heap_setCell _ _ _ _ (by show k ≠ w.heap.size + 1; omega), Below.heap_setCell _ _ _ _ (by show k ≠ w.heap.size + 1; omega), Below.heap_setCell _ _ _ _ (by show k ≠ w.heap.size + 1 + 1; omega)]
      exact HT7.out k h1 h2
    refine bodyPost_ret (v := .agg #[(.slice (some ⟨g5, 0, none⟩) (n + 1) c5), (.slice (some ⟨g7, 0, none⟩) (m + 1) c7)]) (by simp [results, Tryd.results36, go_sem, q0, q1]) rfl ?_
    have hl5 : (vs ++ [(⟨x, t⟩ : Pm)]).length = n + 1 := by rw [List.length_append, HN.out]; rfl
    have hr5 : Own1 kP (w5.setCell ⟨w.heap.size + 1 + 1, 0, none⟩ (.slice (some ⟨g5, 0, none⟩) (n + 1) c5)) (w.heap.size + 3) (fun j => j < w.heap.size + 3) (.slice (some ⟨g5, 0, none⟩) (vs ++ [(⟨x, t⟩ : Pm)]).length c5) (vs ++ [⟨x, t⟩]) := by rw [hl5]; exact HO5'.out
    have hlx : (ls ++ [x]).length = (m + 1) := by rw [List.length_append, HM.out]; rfl
    show GivesW w (vs ++ [⟨x, t⟩]) (ls ++ [x]) _ _
    refine ⟨some ⟨g5, 0, none⟩, c5, (some ⟨g7, 0, none⟩), c7, by rw [hl5, hlx], own_pms (hr5.next (Z' := (fun j => j < w.heap.size + 3)) ⟨fun k hk hz => HT8.out k (Nat.le_of_not_lt hz) hk, fun _ h => Or.inl h⟩), ?_, (fun g i hg => by have := (HO5'.out.lt g (by injection hg with h; injection h with h; rw [h]; rfl)).1; omega), (fun g i hg => by have := (HR6.out.lt g (by rw [hg]; rfl)).1; have h2 := HW5'.out.sz; omega), ?_⟩
    · refine A.Own1.strs (HR6.out.next (Z' := (fun j => j < w.heap.size + 3)) ⟨fun k _ hz => ?_, fun _ h => Or.inl h⟩)
      have hne : k ≠ w.heap.size + 1 := fun e => hz (by show k < w.heap.size + 3; omega)
      rw [Below.heap_setCell _ _ _ _ hne, Below.heap_setCell _ _ _ _ hne]
    · exact (HW7'.out.bel.setCell (p := ⟨w.heap.size + 1, 0, none⟩) (Nat.le_succ _) _).setCell (p := ⟨w.heap.size + 1, 1, none⟩) (Nat.le_succ _) _
end Go.Proofs.YtgjnddjpinhkgaaDoor.Y
namespace Go.Proofs.YtgjnddjpinhkgaaDoor.Y
open Go.RowKit
open L (Str isName prt size_len below_2 below_box ret_bool ret_int eql_eq bytes_eq)
open A (Ex St Pm Pr V arity vE vEs absent exV exO exV_mk Bx okE okEs cE cEs PmsAt StrsAt PrIn OkP prV prO names valE ExsAt ExAt StsAt StAt Bodies RowK Own1 Stays kN okB okS cB cS)
open P (On off_of wp_region_inv IS)
theorem cB_drop {l : List St} {k : Nat} (hk : k < l.length) : cB (l.drop k) = cS l[k] + cB (l.drop (k + 1)) := by
  rw [List.drop_eq_getElem_cons hk, cB]
theorem cB_drop_le {l : List St} : ∀ k, cB (l.drop k) ≤ cB l := by
  intro k
  induction k generalizing l with
  | zero => exact Nat.le_refl _
  | succ k ih =>
    cases l with
    | nil => exact Nat.le_refl _
    | cons s r => rw [List.drop_succ_cons, cB]; have := @ih r; omega
theorem cS_open (s : St) : cS s = 1 + s.name.size / 64 + cE s.a + cE s.b + cB s.body + cB s.els := by
  obtain ⟨o, nm, mx, a, b, bd, el⟩ := s
  rw [cS]; rfl
def QS (l : List St) : Prop := ∀ (a : Option Addr) (c : Nat) (seen : List ByteArray) (sa : Option Addr) (sc : Nat) (ls : List ByteArray) (la : Option Addr) (lc : Nat) (w : World), okB l → l.length ≤ 1000000000000000 → StrsAt w sa seen → StrsAt w la ls → Bodies w a l →
  seen.length + cB l ≤ 90000 → ls.length + cB l ≤ 90000 → Calls Tryd.prog 21 #[.slice a l.length c, .slice sa seen.length sc, .slice la ls.length lc] w fun e' w' => e' = .returned (.bool (scB seen ls l)) ∧ Below w.heap.size w w'
def P9 (N : Nat) (s0 : ByteArray) (x y : Value) (l1 l2 : List ByteArray) (n1 n2 : Nat) : Nat → Value → World → Prop
  | 0, v, _ => v = x
  | 1, v, _ => v = .pointer (some ⟨N, 1, none⟩)
  | 2, v, _ => v = .string s0
  | 3, v, w => ∃ p q, v = .slice p (n1 + 1) q ∧ StrsAt w p l1
  | 4, v, _ => v = y
  | 5, v, _ => v = .pointer (some ⟨N, 1, none⟩)
  | 6, v, _ => v = .string s0
  | 7, v, w => ∃ p q, v = .slice p (n2 + 1) q ∧ StrsAt w p l2
  | 8, v, w => ∃ p q, v = .slice p (n1 + 1) q ∧ StrsAt w p l1
  | 9, v, w => ∃ p q, v = .slice p (n2 + 1) q ∧ StrsAt w p l2
  | _, _, _ => True
theorem P9.mono {N : Nat} {s0 : ByteArray} {x y : Value} {l1 l2 : List ByteArray} {n1 n2 : Nat} : ∀ j v w w', P9 N s0 x y l1 l2 n1 n2 j v w → Below w.heap.size w w' → P9 N s0 x y l1 l2 n1 n2 j v w' := by
  intro j v w w' h hb
  match j, h with
  | 0, h => exact h
  | 1, h => exact h
  | 2, h => exact h
  | 3, ⟨p, q, h1, h2⟩ => exact ⟨p, q, h1, h2.below hb⟩
  | 4, h => exact h
  | 5, h => exact h
  | 6, h => exact h
  | 7, ⟨p, q, h1, h2⟩ => exact ⟨p, q, h1, h2.below hb⟩
  | 8, ⟨p, q, h1, h2⟩ => exact ⟨p, q, h1, h2.below hb⟩
  | 9, ⟨p, q, h1, h2⟩ => exact ⟨p, q, h1, h2.below hb⟩
  | _ + 10, _ => trivial
end Go.Proofs.YtgjnddjpinhkgaaDoor.Y
namespace Go.Proofs.YtgjnddjpinhkgaaDoor.Y
open Go.RowKit
open L (Str isName prt size_len below_2 below_box ret_bool ret_int eql_eq bytes_eq)
open A (Ex St Pm Pr V arity vE vEs absent exV exO exV_mk Bx okE okEs cE cEs PmsAt StrsAt PrIn OkP prV prO names valE ExsAt ExAt StsAt StAt RowK Own1 Stays kN okB okS cB cS)
open P (On off_of wp_region_inv IS)
/-- the value of a statement's check, out of its parts -/
def rfV (o e0 as1 : Int) (wb : Bool) (rb re rl : Int) : Int :=
  if (if (if e0 = 0 ∧ o = 2 then as1 else e0) = 0 ∧ wb = true then 10 else (if e0 = 0 ∧ o = 2 then as1 else e0)) = 0 ∧ o = 5 then (if rb = 0 then re else rb)
  else if (if (if e0 = 0 ∧ o = 2 then as1 else e0) = 0 ∧ wb = true then 10 else (if e0 = 0 ∧ o = 2 then as1 else e0)) = 0 ∧ o = 6 then rl
  else (if (if e0 = 0 ∧ o = 2 then as1 else e0) = 0 ∧ wb = true then 10 else (if e0 = 0 ∧ o = 2 then as1 else e0))
theorem rfS_open (vs : List Pm) (ls : List ByteArray) (s : St) : rfS vs ls s = rfV s.op (opsR vs s.op s.a s.b).2.2 (asgR vs ls s.name (opsR vs s.op s.a s.b).1) (wrong s.op (opsR vs s.op s.a s.b).1 (opsR vs s.op s.a s.b).2.1) (rfB vs ls s.body) (rfB vs ls s.els) (rfB (vs ++ [⟨s.name, 1⟩]) (ls ++ [s.name]) s.body) := by
  obtain ⟨o, nm, mx, a, b, bd, el⟩ := s
  rw [rfS]; rfl
theorem rfB_drop {vs : List Pm} {ls : List ByteArray} {l : List St} {k : Nat} (hk : k < l.length) : rfB vs ls (l.drop k) = if rfS vs ls l[k] ≠ 0 then rfS vs ls l[k] else rfB (if l[k].op = 1 then vs ++ [⟨l[k].name, (opsR vs l[k].op l[k].a l[k].b).1⟩] else vs) ls (l.drop (k + 1)) := by
  rw [List.drop_eq_getElem_cons hk, rfB]
theorem pms_put {w : World} {p : Option Addr} {l : List Pm} {b i : Nat} {v : Value} (h : PmsAt w p l) (hp : ∀ g i, p = some ⟨g, i, none⟩ → g ≠ b) : PmsAt (w.setCell ⟨b, i, none⟩ v) p l := by
  rcases h with h | ⟨g, j, ha, h⟩
  · exact Or.inl h
  · have hk := Below.heap_setCell w ⟨b, i, none⟩ v g (hp g j ha)
    exact Or.inr ⟨g, j, ha, fun q hq => ⟨(World.cell?_of_block (w := w) hk).trans (h q hq).1, (World.cell?_of_block (w := w) hk).trans (h q hq).2⟩⟩
theorem strs_put {w : World} {p : Option Addr} {l : List ByteArray} {b i : Nat} {v : Value} (h : StrsAt w p l) (hp : ∀ g i, p = some ⟨g, i, none⟩ → g ≠ b) : StrsAt (w.setCell ⟨b, i, none⟩ v) p l := by
  rcases h with h | ⟨g, j, ha, h⟩
  · exact Or.inl h
  · have hk := Below.heap_setCell w ⟨b, i, none⟩ v g (hp g j ha)
    exact Or.inr ⟨g, j, ha, fun q hq => (World.cell?_of_block (w := w) hk).trans (h q hq)⟩
def QB (l : List St) : Prop := ∀ (a : Option Addr) (c : Nat) (vs : List Pm) (va : Option Addr) (vc : Nat) (ls : List ByteArray) (la : Option Addr) (lc : Nat) (w : World), okB l → l.length ≤ 1000000000000000 → PmsAt w va vs → StrsAt w la ls → A.Bodies w a l →
  vs.length + cB l ≤ 90000 → ls.length + cB l ≤ 90000 → Calls Tryd.prog 37 #[.agg #[.slice va vs.length vc, .slice la ls.length lc], .slice a l.length c] w fun e' w' => e' = .returned (.int .i64 (rfB vs ls l)) ∧ Below w.heap.size w w'
def P15 (M : Nat) (s0 : ByteArray) (x y : Value) (l1 : List Pm) (l2 : List ByteArray) (n1 n2 : Nat) (r : Int) : Nat → Value → World → Prop
  | 0, v, _ => v = x
  | 1, v, _ => v = .pointer (some ⟨M, 1, none⟩)
  | 2, v, _ => v = .string s0
  | 3, v, w => ∃ p q p2 q2, v = .agg #[.slice p n1 q, .slice p2 n2 q2] ∧ PmsAt w p l1 ∧ StrsAt w p2 l2
  | 4, v, _ => v = .pointer (some ⟨M, 11, none⟩)
  | 5, v, _ => v = y
  | 6, v, _ => v = .int .i64 r
  | 7, v, _ => v = .int .i64 r
  | _, _, _ => True
theorem P15.mono {M : Nat} {s0 : ByteArray} {x y : Value} {l1 : List Pm} {l2 : List ByteArray} {n1 n2 : Nat} {r : Int} : ∀ j v w w', P15 M s0 x y l1 l2 n1 n2 r j v w → Below w.heap.size w w' → P15 M s0 x y l1 l2 n1 n2 r j v w' := by
  intro j v w w' h hb
  match j, h with
  | 0, h => exact h
  | 1, h => exact h
  | 2, h => exact h
  | 3, ⟨p, q, p2, q2, h1, h2, h3⟩ => exact ⟨p, q, p2, q2, h1, h2.below hb, h3.below hb⟩
  | 4, h => exact h
  | 5, h => exact h
  | 6, h => exact h
  | 7, h => exact h
  | _ + 8, _ => trivial
set_option maxHeartbeats 8000000 in
set_option maxRecDepth 100000 in
theorem body_step {l : List St} (hq : ∀ j (h : j < l.length), QB (l[j]).body ∧ QB (l[j]).els) : QB l := by
  intro a c vs va0 vc0 ls la0 lc0 w hok hl hS hLs hK hn1 hn2
  have HST := Lib.hid hq
  have HOK := Lib.hid hok
  have hb0 := below_box w (.cells #[.slice va0 vs.length vc0, .slice la0 ls.length lc0] 66)
  have HK := Lib.hid (fun w' (h : Below w.heap.size w w') => hK.below h)
  obtain ⟨R, hR⟩ : ∃ R, rfB vs ls l = R := ⟨_, rfl⟩
  rw [hR]
  have HR : Hid (rfB vs ls (l.drop 0) = R) := hR
  have HN1 : Hid (vs.length + cB (l.drop 0) ≤ 90000) := hn1
  have HN2 := Lib.hid hn2
  have hbx := Bx.new w #[.slice va0 vs.length vc0, .slice la0 ls.length lc0] 66
  obtain ⟨m, hm⟩ : ∃ m, l.length = m := ⟨_, rfl⟩
  have HL := Lib.hid hm
  obtain ⟨nl, hnl⟩ : ∃ m, ls.length = m := ⟨_, rfl⟩
  have HNL := Lib.hid hnl
  have HS0 := Lib.hid (hS.below hb0)
  have HL0 := Lib.hid (hLs.below hb0)
  have HB0 := Lib.hid hb0
  have HX0 := Lib.hid hbx
  rw [hm] at hl ⊢
  rw [hnl] at HX0 HS0 HL0 HB0 ⊢
  clear hm hR hS hLs hK hn1 hn2 hq hok hnl hb0 hbx
  go_enter Tryd.func37, Tryd.ntmps37
  go_wp2_with fail
  go_loopw [5] (fun s5 wr => ∃ (k : Nat) (sn : List Pm) (va : Option Addr) (vc : Nat) (la : Option Addr) (lc : Nat), k ≤ m ∧ s5 = .int .i64 k ∧ Hid (rfB sn ls (l.drop k) = R) ∧ Hid (sn.length + cB (l.drop k) ≤ 90000) ∧ Hid (Bx wr w.heap.size #[.slice va sn.length vc, .slice la nl lc] 66) ∧ Hid (PmsAt wr va sn) ∧ Hid (StrsAt wr la ls) ∧ Hid (Below w.heap.size w wr)) (fun s5 _ => m - (intOf s5).toNat)
  case atStart => exact ⟨0, vs, va0, vc0, la0, lc0, Nat.zero_le _, rfl, HR, HN1, HX0.out, HS0.out, HL0.out, HB0.out⟩
  case round =>
    obtain ⟨k, sn, va, vc, la, lc, hk, rfl, HX, HN, HBx, HSk, HLk, HBr⟩ := hrel
    by_cases hlt : k < m
    · have hlx : k < l.length := by rw [HL.out]; exact hlt
      obtain ⟨b3, i3, rfl, hat⟩ := (HK.out w (Below.refl _ _)).open hlx
      obtain ⟨a1, c1, a2, c2, a3, c3, a4, c4, hcc0, hkk⟩ := hat.open
      have hcc := hcc0.below HBr.out
      have hoks := A.okS_open (HOK.out.get k hlx)
      have hcd := cB_drop hlx
      have hcs := cS_open l[k]
      have hcl := cB_drop_le (l := l) k
      have hnn := HN.out
      have hnn2 := HN2.out
      have hsn : sn.length ≤ 90000 := by omega
      have hx := HX.out
      rw [rfB_drop hlx, rfS_open] at hx
      obtain ⟨hqb, hqe⟩ := HST.out k hlx
      have hlsl : ls.length ≤ 90000 := by omega
      have OP : Hid (∀ wk, Below wr.heap.size wr wk → Calls Tryd.prog 71 #[.agg #[.slice va sn.length vc, .slice la nl lc], .agg (stF l[k] a1 c1 a2 c2 a3 c3 a4 c4)] wk fun e' w' => e' = .returned (.tuple #[.int .i64 (opsR sn (l[k]).op (l[k]).a (l[k]).b).1, .int .i64 (opsR sn (l[k]).op (l[k]).a (l[k]).b).2.1, .int .i64 (opsR sn (l[k]).op (l[k]).a (l[k]).b).2.2]) ∧ Below wk.heap.size wk w') := fun wk hb =>
        roperands_any sn va vc la nl lc l[k] a1 c1 a2 c2 a3 c3 a4 c4 (by omega) wk hoks.a hoks.b (HSk.out.below hb) ((hkk.a.below HBr.out).below hb) ((hkk.b.below HBr.out).below hb)
      have AS : Hid (∀ wk t, Below wr.heap.size wr wk → Calls Tryd.prog 72 #[.agg #[.slice va sn.length vc, .slice la nl lc], .string (l[k]).name, .int .i64 t] wk fun e' w' => e' = .returned (.int .i64 (asgR sn ls (l[k]).name t)) ∧ Below wk.heap.size wk w') := fun wk t hb => by
        have := rassign_any sn ls va vc la lc (l[k]).name t (by omega) (by omega) wk (HSk.out.below hb) (HLk.out.below hb)
        rw [HNL.out] at this
        exact this
      have WI : Hid (∀ wk t (b : Bool), Below wr.heap.size wr wk → Calls Tryd.prog 36 #[.agg #[.slice va sn.length vc, .slice la nl lc], .string (l[k]).name, .int .i64 t, .bool b] wk (GivesW wk (sn ++ [⟨(l[k]).name, t⟩]) (if b = true then ls ++ [(l[k]).name] else ls))) := fun wk t b hb => by
        have := rwith_any sn ls va vc la lc (l[k]).name t b (by omega) (by omega) wk (HSk.out.below hb) (HLk.out.below hb)
        rw [HNL.out] at this
        exact this
      have SB : Hid (∀ wk, Below wr.heap.size wr wk → Calls Tryd.prog 37 #[.agg #[.slice va sn.length vc, .slice la nl lc], .slice a3 (l[k]).body.length c3] wk fun e' w' => e' = .returned (.int .i64 (rfB sn ls (l[k]).body)) ∧ Below wk.heap.size wk w') := fun wk hb => by
        have := hqb a3 c3 sn va vc ls la lc wk hoks.body hoks.bodyLen (HSk.out.below hb) (HLk.out.below hb) ((hkk.body.below HBr.out).below hb) (by omega) (by omega)
        rw [HNL.out] at this
        exact this
      have SE : Hid (∀ wk, Below wr.heap.size wr wk → Calls Tryd.prog 37 #[.agg #[.slice va sn.length vc, .slice la nl lc], .slice a4 (l[k]).els.length c4] wk fun e' w' => e' = .returned (.int .i64 (rfB sn ls (l[k]).els)) ∧ Below wk.heap.size wk w') := fun wk hb => by
        have := hqe a4 c4 sn va vc ls la lc wk hoks.els hoks.elsLen (HSk.out.below hb) (HLk.out.below hb) ((hkk.els.below HBr.out).below hb) (by omega) (by omega)
        rw [HNL.out] at this
        exact this
      have SL : Hid (∀ wk p q p2 q2, Below wr.heap.size wr wk → PmsAt wk p (sn ++ [⟨(l[k]).name, 1⟩]) → StrsAt wk p2 (ls ++ [(l[k]).name]) → Calls Tryd.prog 37 #[.agg #[.slice p (sn.length + 1) q, .slice p2 (nl + 1) q2], .slice a3 (l[k]).body.length c3] wk fun e' w' => e' = .returned (.int .i64 (rfB (sn ++ [⟨(l[k]).name, 1⟩]) (ls ++ [(l[k]).name]) (l[k]).body)) ∧ Below wk.heap.size wk w') := fun wk p q p2 q2 hb h1 h2 => by
        have := hqb a3 c3 (sn ++ [⟨(l[k]).name, 1⟩]) p q (ls ++ [(l[k]).name]) p2 q2 wk hoks.body hoks.bodyLen h1 h2 ((hkk.body.below HBr.out).below hb) (by rw [List.length_append]; simp only [List.length_cons, List.length_nil]; omega) (by rw [List.length_append]; simp only [List.length_cons, List.length_nil]; omega)
        rw [List.length_append, List.length_append, HNL.out] at this
        exact this
      have HN3 : Hid (sn.length + cB (l.drop (k + 1)) ≤ 90000) := by show _ ≤ _; omega
      have HN4 : Hid (∀ p : Pm, (sn ++ [p]).length + cB (l.drop (k + 1)) ≤ 90000) := fun p => by rw [List.length_append]; simp only [List.length_cons, List.length_nil]; omega
      have HL4 : Hid (∀ p : Pm, (sn ++ [p]).length = sn.length + 1) := fun p => by simp
      have HL5 : Hid ((ls ++ [(l[k]).name]).length = nl + 1) := by show _ = _; rw [List.length_append, HNL.out]; rfl
      have hbz := below_box wr (A.stO l[k] a1 c1 a2 c2 a3 c3 a4 c4)
      have hxz := Bx.new wr (stF l[k] a1 c1 a2 c2 a3 c3 a4 c4) 56
      have f0 := hcc.k0
      have f1 := hcc.k1
      have f2 := hcc.k2
      have f3 := hcc.k3
      have f4 := hcc.k4
      have f5 := hcc.k5
      have f6 := hcc.k6
      have f7 := hcc.k7
      have f8 := hcc.k8
      have f9 := hcc.k9
      have f10 := hcc.k10
      have f11 := hcc.k11
      have f12 := hcc.k12
      clear hat hcc0 hkk hcc hoks hqb hqe hcd hcs hcl hnn hnn2 HX HN
      unfold A.stO at hbz
      unfold stF at OP hxz
      generalize hop : opsR sn (l[k]).op (l[k]).a (l[k]).b = ty at *
      obtain ⟨t1, t2, e0⟩ := ty
      clear hop
      have hx' : (if rfV (l[k]).op e0 (asgR sn ls (l[k]).name t1) (wrong (l[k]).op t1 t2) (rfB sn ls (l[k]).body) (rfB sn ls (l[k]).els) (rfB (sn ++ [⟨(l[k]).name, 1⟩]) (ls ++ [(l[k]).name]) (l[k]).body) ≠ 0 then _ else rfB (if (l[k]).op = 1 then sn ++ [⟨(l[k]).name, t1⟩] else sn) ls (l.drop (k + 1))) = R := hx
      have AS1 := Lib.hid (fun wk => AS.out wk t1)
      have WR := Lib.hid (fun wk => rwrong_any (l[k]).op t1 t2 wk)
      clear hx AS
      generalize (l[k]).a.args.length = n1 at *
      generalize (l[k]).b.args.length = n2 at *
      generalize (l[k]).a.op = o1 at *
      generalize (l[k]).a.n = m1 at *
      generalize (l[k]).a.s = s1 at *
      generalize (l[k]).b.op = o2 at *
      generalize (l[k]).b.n = m2 at *
      generalize (l[k]).b.s = s2 at *
      have HW2 : Hid ((l[k]).op = 2 → wrong (l[k]).op t1 t2 = false) := fun h => by rw [h]; unfold wrong; rfl
      generalize asgR sn ls (l[k]).name t1 = as1 at *
      generalize wrong (l[k]).op t1 t2 = wb at *
      generalize rfB sn ls (l[k]).body = rb at *
      generalize rfB sn ls (l[k]).els = re at *
      generalize rfB (sn ++ [⟨(l[k]).name, 1⟩]) (ls ++ [(l[k]).name]) (l[k]).body = rl at *
      generalize (l[k]).body.length = n3 at *
      generalize (l[k]).els.length = n4 at *
      generalize (l[k]).op = o0 at *
      generalize (l[k]).name = s0 at *
      generalize (l[k]).mx = m0 at *
      have HR1 : Hid (∀ v, rfV o0 e0 as1 wb rb re rl = v → v ≠ 0 → v = R) := fun v h1 h2 => by rw [h1, if_pos h2] at hx'; exact hx'
      have HR0 : Hid (rfV o0 e0 as1 wb rb re rl = 0 → rfB (if o0 = 1 then sn ++ [⟨s0, t1⟩] else sn) ls (l.drop (k + 1)) = R) := fun h1 => by rw [h1, if_neg (fun z => z rfl)] at hx'; exact hx'
      have HXz := Lib.hid hxz
      have HBz := Lib.hid hbz
      have HSz := Lib.hid (HBx.out.below hbz)
      have g0 := HBx.out.cell 0
      have g1 := HBx.out.cell 1
      have z0 := HSz.out.cell 0
      have z1 := HSz.out.cell 1
      have y0 := hxz.cell 0
      have y1 := hxz.cell 1
      have y2 := hxz.cell 2
      have y3 := hxz.cell 3
      have y4 := hxz.cell 4
      have y5 := hxz.cell 5
      have y6 := hxz.cell 6
      have y7 := hxz.cell 7
      have y8 := hxz.cell 8
      have y9 := hxz.cell 9
      have y10 := hxz.cell 10
      have y11 := hxz.cell 11
      have y12 := hxz.cell 12
      simp only [List.getElem?_toArray, List.getElem?_cons_zero, List.getElem?_cons_succ] at g0 g1 z0 z1 y0 y1 y2 y3 y4 y5 y6 y7 y8 y9 y10 y11 y12
      clear hxz hbz hx'
      go_wp2_with fail
      refine (OP.out _ HBz.out).mono ?_; rintro e' w1 ⟨rfl, hb⟩
      have HBw1 := Lib.hid (below_2 HBz.out hb)
      have HXw1 := Lib.hid (HXz.out.below hb)
      have HSw1 := Lib.hid (HSz.out.below hb)
      clear hb
      have yw10 := HXw1.out.cell 0
      have yw11 := HXw1.out.cell 1
      have yw12 := HXw1.out.cell 2
      have yw13 := HXw1.out.cell 3
      have yw14 := HXw1.out.cell 4
      have yw15 := HXw1.out.cell 5
      have yw16 := HXw1.out.cell 6
      have yw17 := HXw1.out.cell 7
      have yw18 := HXw1.out.cell 8
      have yw19 := HXw1.out.cell 9
      have yw110 := HXw1.out.cell 10
      have yw111 := HXw1.out.cell 11
      have yw112 := HXw1.out.cell 12
      have zw10 := HSw1.out.cell 0
      have zw11 := HSw1.out.cell 1
      simp only [List.getElem?_toArray, List.getElem?_cons_zero, List.getElem?_cons_succ] at yw10 yw11 yw12 yw13 yw14 yw15 yw16 yw17 yw18 yw19 yw110 yw111 yw112 zw10 zw11
      by_cases he : e0 = 0
      case neg =>
        have be : (e0 == 0) = false := beq_eq_false_iff_ne.2 he
        have bn : (e0 != 0) = true := bne_iff_ne.2 he
        have HE := Lib.hid he
        clear he
        have HV : Hid (e0 = R) := HR1.out _ (by simp [rfV, HE.out]) HE.out
        go_wp2_with fail
        go_ret
        exact ⟨ret_int HV.out, below_2 HBr.out HBw1.out⟩
      subst he
      by_cases h2 : o0 = 2
      · subst h2
        obtain rfl : wb = false := HW2.out rfl
        go_wp2_with fail
        refine (AS1.out _ HBw1.out).mono ?_; rintro e' w2 ⟨rfl, hb⟩
        have HBw2 := Lib.hid (below_2 HBw1.out hb)
        have HXw2 := Lib.hid (HXw1.out.below hb)
        have HSw2 := Lib.hid (HSw1.out.below hb)
        clear hb
        have yw20 := HXw2.out.cell 0
        have yw21 := HXw2.out.cell 1
        have yw22 := HXw2.out.cell 2
        have yw23 := HXw2.out.cell 3
        have yw24 := HXw2.out.cell 4
        have yw25 := HXw2.out.cell 5
        have yw26 := HXw2.out.cell 6
        have yw27 := HXw2.out.cell 7
        have yw28 := HXw2.out.cell 8
        have yw29 := HXw2.out.cell 9
        have yw210 := HXw2.out.cell 10
        have yw211 := HXw2.out.cell 11
        have yw212 := HXw2.out.cell 12
        have zw20 := HSw2.out.cell 0
        have zw21 := HSw2.out.cell 1
        simp only [List.getElem?_toArray, List.getElem?_cons_zero, List.getElem?_cons_succ] at yw20 yw21 yw22 yw23 yw24 yw25 yw26 yw27 yw28 yw29 yw210 yw211 yw212 zw20 zw21
        by_cases ha : as1 = 0
        case neg =>
          have be : (as1 == 0) = false := beq_eq_false_iff_ne.2 ha
          have bn : (as1 != 0) = true := bne_iff_ne.2 ha
          have HE := Lib.hid ha
          clear ha
          have HV : Hid (as1 = R) := HR1.out _ (by simp [rfV, HE.out]) HE.out
          go_wp2_with fail
          go_ret
          exact ⟨ret_int HV.out, below_2 HBr.out HBw2.out⟩
        subst ha
        go_wp2_with fail
        refine (WR.out _).mono ?_; rintro e' wx ⟨rfl, rfl⟩
        have HX2 : Hid (rfB sn ls (l.drop (k + 1)) = R) := by show _ = _; have := HR0.out (by simp [rfV]); simpa using this
        go_wp2_with fail
        go_roundw
        case rel => exact ⟨k + 1, sn, va, vc, la, lc, by omega, by go_num, HX2, HN3, HSw2.out, HSk.out.below HBw2.out, HLk.out.below HBw2.out, below_2 HBr.out HBw2.out⟩
        case measure => simp [intOf]; omega
      have e2 : (o0 == 2) = false := beq_eq_false_iff_ne.2 h2
      have H2 := Lib.hid h2
      clear h2
      go_wp2_with fail
      refine (WR.out _).mono ?_; rintro e' wx ⟨rfl, rfl⟩
      cases wb with
      | true =>
        have HV : Hid (10 = R) := HR1.out _ (by simp [rfV, H2.out]) (by decide)
        go_wp2_with fail
        go_ret
        exact ⟨ret_int HV.out, below_2 HBr.out HBw1.out⟩
      | false =>
        by_cases h5 : o0 = 5
        · subst h5
          go_wp2_with fail
          refine (SB.out _ HBw1.out).mono ?_; rintro e' w2 ⟨rfl, hb⟩
          have HBw2 := Lib.hid (below_2 HBw1.out hb)
          have HXw2 := Lib.hid (HXw1.out.below hb)
          have HSw2 := Lib.hid (HSw1.out.below hb)
          clear hb
          have yw20 := HXw2.out.cell 0
          have yw21 := HXw2.out.cell 1
          have yw22 := HXw2.out.cell 2
          have yw23 := HXw2.out.cell 3
          have yw24 := HXw2.out.cell 4
          have yw25 := HXw2.out.cell 5
          have yw26 := HXw2.out.cell 6
          have yw27 := HXw2.out.cell 7
          have yw28 := HXw2.out.cell 8
          have yw29 := HXw2.out.cell 9
          have yw210 := HXw2.out.cell 10
          have yw211 := HXw2.out.cell 11
          have yw212 := HXw2.out.cell 12
          have zw20 := HSw2.out.cell 0
          have zw21 := HSw2.out.cell 1
          simp only [List.getElem?_toArray, List.getElem?_cons_zero, List.getElem?_cons_succ] at yw20 yw21 yw22 yw23 yw24 yw25 yw26 yw27 yw28 yw29 yw210 yw211 yw212 zw20 zw21
          by_cases ha : rb = 0
          case neg =>
            have be : (rb == 0) = false := beq_eq_false_iff_ne.2 ha
            have bn : (rb != 0) = true := bne_iff_ne.2 ha
            have HE := Lib.hid ha
            clear ha
            have HV : Hid (rb = R) := HR1.out _ (by simp [rfV, HE.out]) HE.out
            go_wp2_with fail
            go_ret
            exact ⟨ret_int HV.out, below_2 HBr.out HBw2.out⟩
          subst ha
          go_wp2_with fail
          refine (SE.out _ HBw2.out).mono ?_; rintro e' w4 ⟨rfl, hb⟩
          have HBw4 := Lib.hid (below_2 HBw2.out hb)
          have HXw4 := Lib.hid (HXw2.out.below hb)
          have HSw4 := Lib.hid (HSw2.out.below hb)
          clear hb
          have yw40 := HXw4.out.cell 0
          have yw41 := HXw4.out.cell 1
          have yw42 := HXw4.out.cell 2
          have yw43 := HXw4.out.cell 3
          have yw44 := HXw4.out.cell 4
          have yw45 := HXw4.out.cell 5
          have yw46 := HXw4.out.cell 6
          have yw47 := HXw4.out.cell 7
          have yw48 := HXw4.out.cell 8
          have yw49 := HXw4.out.cell 9
          have yw410 := HXw4.out.cell 10
          have yw411 := HXw4.out.cell 11
          have yw412 := HXw4.out.cell 12
          have zw40 := HSw4.out.cell 0
          have zw41 := HSw4.out.cell 1
          simp only [List.getElem?_toArray, List.getElem?_cons_zero, List.getElem?_cons_succ] at yw40 yw41 yw42 yw43 yw44 yw45 yw46 yw47 yw48 yw49 yw410 yw411 yw412 zw40 zw41
          by_cases ha : re = 0
          case neg =>
            have be : (re == 0) = false := beq_eq_false_iff_ne.2 ha
            have bn : (re != 0) = true := bne_iff_ne.2 ha
            have HE := Lib.hid ha
            clear ha
            have HV : Hid (re = R) := HR1.out _ (by simp [rfV]) HE.out
            go_wp2_with fail
            go_ret
            exact ⟨ret_int HV.out, below_2 HBr.out HBw4.out⟩
          subst ha
          have HX2 : Hid (rfB sn ls (l.drop (k + 1)) = R) := by show _ = _; have := HR0.out (by simp [rfV]); simpa using this
          go_wp2_with fail
          go_roundw
          case rel => exact ⟨k + 1, sn, va, vc, la, lc, by omega, by go_num, HX2, HN3, HSw4.out, HSk.out.below HBw4.out, HLk.out.below HBw4.out, below_2 HBr.out HBw4.out⟩
          case measure => simp [intOf]; omega
        have e5 : (o0 == 5) = false := beq_eq_false_iff_ne.2 h5
        have H5 := Lib.hid h5
        clear h5
        by_cases h6 : o0 = 6
        · subst h6
          clear e2 e5
          go_wp2_with fail
          refine wp_region_inv rfl (fun l a w' => ∃ v0 v1 v2 v3 v4 v5 v6 v7 : Value, a = { tmps := #[Value.agg #[Value.slice va0 vs.length vc0, Value.slice la0 nl lc0], Value.slice (some { block := b3, off := i3 }) m c, Value.pointer (some { block := w.heap.size, off := 0 }), undef, u4, Value.int IntKind.i64 ↑k, Value.pointer (some { block := wr.heap.size, off := 0 }), Value.int IntKind.i64 t1, Value.int IntKind.i64 t2, v7, Value.int IntKind.i64 ↑k, Value.slice (some { block := b3, off := i3 }) m c, Value.int IntKind.i64 ↑m, Value.bool true, u14, u15, Value.slice (some { block := b3, off := i3 }) m c, Value.int IntKind.i64 ↑k, Value.pointer (some { block := b3, off := i3 + k * 13 }), Value.agg #[Value.int IntKind.i64 6, Value.string s0, Value.int IntKind.i64 m0, Value.int IntKind.i64 o1, Value.int IntKind.i64 m1, Value.string s1, Value.slice a1 n1 c1, Value.int IntKind.i64 o2, Value.int IntKind.i64 m2, Value.string s2, Value.slice a2 n2 c2, Value.slice a3 n3 c3, Value.slice a4 n4 c4], Value.tuple #[Value.int IntKind.i64 t1, Value.int IntKind.i64 t2, Value.int IntKind.i64 0], Value.agg #[Value.slice va sn.length vc, Value.slice la nl lc], Value.agg #[Value.int IntKind.i64 6, Value.string s0, Value.int IntKind.i64 m0, Value.int IntKind.i64 o1, Value.int IntKind.i64 m1, Value.string s1, Value.slice a1 n1 c1, Value.int IntKind.i64 o2, Value.int IntKind.i64 m2, Value.string s2, Value.slice a2 n2 c2, Value.slice a3 n3 c3, Value.slice a4 n4 c4], Value.tuple #[Value.int IntKind.i64 t1, Value.int IntKind.i64 t2, Value.int IntKind.i64 0], Value.int IntKind.i64 t1, Value.int IntKind.i64 t2, Value.int IntKind.i64 0, Value.int IntKind.i64 0, Value.bool true, Value.bool true, Value.pointer (some { block := wr.heap.size, off := 0 }), Value.int IntKind.i64 6, Value.bool false, Value.bool false, u34, u35, u36, u37, u38, Value.int IntKind.i64 0, Value.bool true, Value.bool true, Value.pointer (some { block := wr.heap.size, off := 0 }), Value.int IntKind.i64 6, Value.int IntKind.i64 t1, Value.int IntKind.i64 t2, Value.bool false, Value.bool false, Value.int IntKind.i64 0, Value.bool true, Value.bool true, Value.pointer (some { block := wr.heap.size, off := 0 }), Value.int IntKind.i64 6, Value.bool false, Value.bool false, u55, u56, u57, u58, u59, u60, u61, u62, u63, u64, Value.int IntKind.i64 0, Value.bool true, Value.bool true, Value.pointer (some { block := wr.heap.size, off := 0 }), Value.int IntKind.i64 6, Value.bool true, Value.bool true, v0, v1, v2, v3, v4, v5, v6, u79, u80, u81, u82, u83, u84, u85, u86, u87, u88, u89], defers := [] } ∧ IS (P15 wr.heap.size s0 (.agg #[.slice va sn.length vc, .slice la nl lc]) (.slice a3 n3 c3) (sn ++ [⟨s0, 1⟩]) (ls ++ [s0]) (sn.length + 1) (nl + 1) rl) wx l w' [v0, v1, v2, v3, v4, v5, v6, v7]) (by kernel_rfl) ?_ ?_ ?_
          · intro l hl
            exact ⟨_, _, _, _, _, _, _, _, rfl, IS.start _ _ hl _⟩
          · rintro l a w' ⟨v0, v1, v2, v3, v4, v5, v6, v7, rfl, F⟩ i hi h0 hall
            match i, hi, h0, hall with
            | 0, _, h0, hall =>
              have hxx := HSw1.out.below F.bel
              have q0 := hxx.cell 0
              have q1 := hxx.cell 1
              simp only [List.getElem?_toArray, List.getElem?_cons_zero, List.getElem?_cons_succ] at q0 q1
              clear hxx
              have HF := Lib.hid (F.step P15.mono h0 (show 0 < 8 by decide) (Below.refl _ _) (x := .agg #[.slice va sn.length vc, .slice la nl lc]) rfl)
              clear F hall h0
              refine wpOp_step (by rfl) (fun K' hK => ?_)
              have HKk := Lib.hid hK
              clear hK
              go_simp
              exact HKk.out _ _ ⟨_, _, _, _, _, _, _, _, rfl, HF.out⟩
            | 1, _, h0, hall =>
              have HF := Lib.hid (F.step P15.mono h0 (show 1 < 8 by decide) (Below.refl _ _) (x := .pointer (some ⟨wr.heap.size, 1, none⟩)) rfl)
              clear F hall h0
              refine wpOp_step (by rfl) (fun K' hK => ?_)
              have HKk := Lib.hid hK
              clear hK
              go_simp
              exact HKk.out _ _ ⟨_, _, _, _, _, _, _, _, rfl, HF.out⟩
            | 2, _, h0, hall =>
              obtain rfl : v1 = .pointer (some ⟨wr.heap.size, 1, none⟩) := F.f 1 (hall 1 (by decide +kernel))
              have hxx := HXw1.out.below F.bel
              have q1 := hxx.cell 1
              have q11 := hxx.cell 11
              simp only [List.getElem?_toArray, List.getElem?_cons_zero, List.getElem?_cons_succ] at q1 q11
              clear hxx
              have HF := Lib.hid (F.step P15.mono h0 (show 2 < 8 by decide) (Below.refl _ _) (x := .string s0) rfl)
              clear F hall h0
              refine wpOp_step (by rfl) (fun K' hK => ?_)
              have HKk := Lib.hid hK
              clear hK
              go_simp
              exact HKk.out _ _ ⟨_, _, _, _, _, _, _, _, rfl, HF.out⟩
            | 3, _, h0, hall =>
              obtain rfl : v0 = .agg #[.slice va sn.length vc, .slice la nl lc] := F.f 0 (hall 0 (by decide +kernel))
              obtain rfl : v2 = .string s0 := F.f 2 (hall 2 (by decide +kernel))
              have HC := Lib.hid (WI.out w' 1 true (below_2 HBw1.out F.bel))
              have HF := Lib.hid (fun w'' hb x hx => F.step P15.mono h0 (show 3 < 8 by decide) (w' := w'') hb (x := x) hx)
              clear F hall h0
              refine wpOp_step (by rfl) (fun K' hK => ?_)
              have HKk := Lib.hid hK
              clear hK
              go_simp
              go_at_call 36
              refine HC.out.mono ?_; rintro e' w5 ⟨p', q', p2', q2', rfl, hp', hs', _, _, hb5⟩
              have HF5 := Lib.hid (HF.out w5 hb5 _ (show P15 _ _ _ _ _ _ _ _ _ 3 (.agg #[.slice p' (sn ++ [(⟨s0, 1⟩ : Pm)]).length q', .slice p2' (ls ++ [s0]).length q2']) w5 from ⟨p', q', p2', q2', by rw [HL4.out, HL5.out], hp', hs'⟩))
              exact HKk.out _ _ ⟨_, _, _, _, _, _, _, _, rfl, HF5.out⟩
            | 4, _, h0, hall =>
              have HF := Lib.hid (F.step P15.mono h0 (show 4 < 8 by decide) (Below.refl _ _) (x := .pointer (some ⟨wr.heap.size, 11, none⟩)) rfl)
              clear F hall h0
              refine wpOp_step (by rfl) (fun K' hK => ?_)
              have HKk := Lib.hid hK
              clear hK
              go_simp
              exact HKk.out _ _ ⟨_, _, _, _, _, _, _, _, rfl, HF.out⟩
            | 5, _, h0, hall =>
              obtain rfl : v4 = .pointer (some ⟨wr.heap.size, 11, none⟩) := F.f 4 (hall 4 (by decide +kernel))
              have hxx := HXw1.out.below F.bel
              have q1 := hxx.cell 1
              have q11 := hxx.cell 11
              simp only [List.getElem?_toArray, List.getElem?_cons_zero, List.getElem?_cons_succ] at q1 q11
              clear hxx
              have HF := Lib.hid (F.step P15.mono h0 (show 5 < 8 by decide) (Below.refl _ _) (x := .slice a3 n3 c3) rfl)
              clear F hall h0
              refine wpOp_step (by rfl) (fun K' hK => ?_)
              have HKk := Lib.hid hK
              clear hK
              go_simp
              exact HKk.out _ _ ⟨_, _, _, _, _, _, _, _, rfl, HF.out⟩
            | 6, _, h0, hall =>
              obtain ⟨p9, q9, p8, q8, rfl, hp9, hs8⟩ : ∃ p q p2 q2, v3 = .agg #[.slice p (sn.length + 1) q, .slice p2 (nl + 1) q2] ∧ PmsAt w' p (sn ++ [(⟨s0, 1⟩ : Pm)]) ∧ StrsAt w' p2 (ls ++ [s0]) := F.f 3 (hall 3 (by decide +kernel))
              obtain rfl : v5 = .slice a3 n3 c3 := F.f 5 (hall 5 (by decide +kernel))
              have HC := Lib.hid (SL.out w' p9 q9 p8 q8 (below_2 HBw1.out F.bel) hp9 hs8)
              have HF := Lib.hid (fun w'' hb x hx => F.step P15.mono h0 (show 6 < 8 by decide) (w' := w'') hb (x := x) hx)
              clear F hall h0
              refine wpOp_step (by rfl) (fun K' hK => ?_)
              have HKk := Lib.hid hK
              clear hK
              go_simp
              go_at_call 37
              refine HC.out.mono ?_; rintro e' w5 ⟨rfl, hb5⟩
              have HF5 := Lib.hid (HF.out w5 hb5 _ (show P15 _ _ _ _ _ _ _ _ _ 6 (.int .i64 rl) w5 from rfl))
              exact HKk.out _ _ ⟨_, _, _, _, _, _, _, _, rfl, HF5.out⟩
            | 7, _, h0, hall =>
              obtain rfl : v6 = .int .i64 rl := F.f 6 (hall 6 (by decide +kernel))
              have HF := Lib.hid (F.step P15.mono h0 (show 7 < 8 by decide) (Below.refl _ _) (x := .int .i64 rl) rfl)
              clear F hall h0
              refine wpOp_step (by rfl) (fun K' hK => ?_)
              have HKk := Lib.hid hK
              clear hK
              go_simp
              exact HKk.out _ _ ⟨_, _, _, _, _, _, _, _, rfl, HF.out⟩
            | i + 8, hi, _, _ => exact absurd hi (by show ¬ (i + 8 < 8); omega)
          rintro l9 a wf ⟨r0, r1, r2, r3, r4, r5, r6, r7, rfl, F⟩ hall
          obtain rfl : r7 = .int .i64 rl := F.f 7 (hall 7 (by decide))
          have hb := F.bel
          have HBwf := Lib.hid (below_2 HBw1.out hb)
          have HXwf := Lib.hid (HXw1.out.below hb)
          have HSwf := Lib.hid (HSw1.out.below hb)
          clear hb F hall
          have ywf0 := HXwf.out.cell 0
          have ywf1 := HXwf.out.cell 1
          have ywf2 := HXwf.out.cell 2
          have ywf3 := HXwf.out.cell 3
          have ywf4 := HXwf.out.cell 4
          have ywf5 := HXwf.out.cell 5
          have ywf6 := HXwf.out.cell 6
          have ywf7 := HXwf.out.cell 7
          have ywf8 := HXwf.out.cell 8
          have ywf9 := HXwf.out.cell 9
          have ywf10 := HXwf.out.cell 10
          have ywf11 := HXwf.out.cell 11
          have ywf12 := HXwf.out.cell 12
          have zwf0 := HSwf.out.cell 0
          have zwf1 := HSwf.out.cell 1
          simp only [List.getElem?_toArray, List.getElem?_cons_zero, List.getElem?_cons_succ] at ywf0 ywf1 ywf2 ywf3 ywf4 ywf5 ywf6 ywf7 ywf8 ywf9 ywf10 ywf11 ywf12 zwf0 zwf1
          by_cases ha : rl = 0
          case neg =>
            have be : (rl == 0) = false := beq_eq_false_iff_ne.2 ha
            have bn : (rl != 0) = true := bne_iff_ne.2 ha
            have HE := Lib.hid ha
            clear ha
            have HV : Hid (rl = R) := HR1.out _ (by simp [rfV]) HE.out
            go_wp2_with fail
            go_ret
            exact ⟨ret_int HV.out, below_2 HBr.out HBwf.out⟩
          subst ha
          have HX2 : Hid (rfB sn ls (l.drop (k + 1)) = R) := by show _ = _; have := HR0.out (by simp [rfV]); simpa using this
          go_wp2_with fail
          go_roundw
          case rel => exact ⟨k + 1, sn, va, vc, la, lc, by omega, by go_num, HX2, HN3, HSwf.out, HSk.out.below HBwf.out, HLk.out.below HBwf.out, below_2 HBr.out HBwf.out⟩
          case measure => simp [intOf]; omega
        have e6 : (o0 == 6) = false := beq_eq_false_iff_ne.2 h6
        have H6 := Lib.hid h6
        clear h6
        by_cases h1 : o0 = 1
        · subst h1
          have HX2 : Hid (rfB (sn ++ [⟨s0, t1⟩]) ls (l.drop (k + 1)) = R) := by show _ = _; have := HR0.out (by simp [rfV]); simpa using this
          go_wp2_with fail
          refine (WI.out _ t1 false HBw1.out).mono ?_; rintro e' w5 ⟨p5, q5, p6, q6, rfl, hp5, hs6, hf5, hf6, hb⟩
          have HBw5 := Lib.hid (below_2 HBw1.out hb)
          have HSw5 := Lib.hid (HSw1.out.below hb)
          have HXw5 := Lib.hid (HXw1.out.below hb)
          have yw50 := HXw5.out.cell 0
          have yw51 := HXw5.out.cell 1
          have yw52 := HXw5.out.cell 2
          have yw53 := HXw5.out.cell 3
          have yw54 := HXw5.out.cell 4
          have yw55 := HXw5.out.cell 5
          have yw56 := HXw5.out.cell 6
          have yw57 := HXw5.out.cell 7
          have yw58 := HXw5.out.cell 8
          have yw59 := HXw5.out.cell 9
          have yw510 := HXw5.out.cell 10
          have yw511 := HXw5.out.cell 11
          have yw512 := HXw5.out.cell 12
          have zw50 := HSw5.out.cell 0
          have zw51 := HSw5.out.cell 1
          simp only [List.getElem?_toArray, List.getElem?_cons_zero, List.getElem?_cons_succ] at yw50 yw51 yw52 yw53 yw54 yw55 yw56 yw57 yw58 yw59 yw510 yw511 yw512 zw50 zw51
          have k0 := HSw5.out.free 0
          have k1 := HSw5.out.free 1
          have hnw : w.heap.size < wx.heap.size := Nat.lt_of_lt_of_le HBx.out.lt (HBw1.out.size)
          have HP5 : Hid (PmsAt ((w5.setCell ⟨w.heap.size, 0, none⟩ (.slice p5 (sn.length + 1) q5)).setCell ⟨w.heap.size, 1, none⟩ (.slice p6 nl q6)) p5 (sn ++ [⟨s0, t1⟩])) := pms_put (pms_put hp5 (fun g i hg => by have := hf5 g i hg; omega)) (fun g i hg => by have := hf5 g i hg; omega)
          have HS6 : Hid (StrsAt ((w5.setCell ⟨w.heap.size, 0, none⟩ (.slice p5 (sn.length + 1) q5)).setCell ⟨w.heap.size, 1, none⟩ (.slice p6 nl q6)) p6 ls) := strs_put (strs_put hs6 (fun g i hg => by have := hf6 g i hg; omega)) (fun g i hg => by have := hf6 g i hg; omega)
          have HBX6 := Lib.hid ((HSw5.out.set 0 (u := .slice p5 (sn.length + 1) q5)).set 1 (u := .slice p6 nl q6))
          have HBE : Hid (Below w.heap.size w ((w5.setCell ⟨w.heap.size, 0, none⟩ (.slice p5 (sn.length + 1) q5)).setCell ⟨w.heap.size, 1, none⟩ (.slice p6 nl q6))) := ((below_2 HBr.out HBw5.out).setCell (Nat.le_refl _) _).setCell (Nat.le_refl _) _
          clear hp5 hs6 hf5 hf6 hb hnw
          simp only [HL4.out, HNL.out, Bool.false_eq_true, ↓reduceIte]
          go_wp2_with fail
          go_roundw
          case rel => exact ⟨k + 1, sn ++ [⟨s0, t1⟩], p5, q5, p6, q6, by omega, by go_num, HX2, HN4.out _, by show Bx _ _ _ _; rw [HL4.out]; exact HBX6.out, HP5, HS6, HBE⟩
          case measure => simp [intOf]; omega
        have e1 : (o0 == 1) = false := beq_eq_false_iff_ne.2 h1
        have H1 := Lib.hid h1
        clear h1
        have HX2 : Hid (rfB sn ls (l.drop (k + 1)) = R) := by show _ = _; have := HR0.out (by simp [rfV, H2.out, H5.out, H6.out]); simpa [H1.out] using this
        go_wp2_with fail
        go_roundw
        case rel => exact ⟨k + 1, sn, va, vc, la, lc, by omega, by go_num, HX2, HN3, HSw1.out, HSk.out.below HBw1.out, HLk.out.below HBw1.out, below_2 HBr.out HBw1.out⟩
        case measure => simp [intOf]; omega
    · have hx := HX.out
      rw [List.drop_of_length_le (by have := HL.out; omega), rfB] at hx
      have HV : Hid (0 = R) := hx
      clear hx
      go_wp2_with fail
      go_ret
      exact ⟨ret_int HV.out, HBr.out⟩
end Go.Proofs.YtgjnddjpinhkgaaDoor.Y
