/-
  The reference of layer 11: Walk ahead of which memory was made; SameParams of equal lists: contracts.
  What the reference of layer 11 returns: lookup, unary, binary, leaf: contracts.
  What the reference of layer 11 returns: typeOf, Of: contracts.
  The laws of layer 11: the law package's small functions, and what its examples have as answers.
-/
import Derived.Test.YtkjefigebdbkaaaDoorN08
import Derived.Test.YtkjefigebdbkaaaDoorN18
import Derived.Deep.QuietTactic
import Derived.BigQuiet
import Derived.Test.YtkjefigebdbkaaaDoorN16
namespace Go.Proofs.YtkjefigebdbkaaaDoor.Y
open Go.RowKit
open L (Str isName prt size_len below_2 below_box ret_bool ret_int eql_eq bytes_eq)
open A (Ex St Pm Pr Bx PmsAt PrIn OkP prV prO VT vcs vs walk)

set_option maxHeartbeats 4000000 in
set_option maxRecDepth 100000 in
theorem rwalk2_any (p : Pr) (a1 a2 : Option Addr) (c1 c2 : Nat) (hok : A.okB p.body) (hl : p.body.length ≤ 1000000000000000) (w0 w : World) (hb0 : Below w0.heap.size w0 w) (hK : A.Bodies w0 a2 p.body) :
    Calls Tryd.prog 27 #[prV p a1 c1 a2 c2] w fun e' w' => ∃ p3 q3 l, e' = .returned (.slice p3 l.length q3) ∧ w'.ownsRow w0.heap.size 66 20 (.slice p3 l.length q3) l.length (vcs l) ∧ (∀ x ∈ l, x.In w0) ∧ vs l = walk p ∧ Below w.heap.size w w' ∧ ∀ g, p3 = some ⟨g, 0, none⟩ → w.heap.size ≤ g := by
  have hb := below_box w (prO p a1 c1 a2 c2)
  have HC := Lib.hid (A.rwalkBody_any p.body w0 (.slice none 0 0) [] a2 c2 1 (w.alloc (prO p a1 c1 a2 c2)) hok hl hK (hb0.trans (hb.mono hb0.size)) ⟨by simp [vcs], Or.inl ⟨rfl, rfl⟩⟩ (fun x hx => by cases hx) (by simp) (by simp))
  have HB := Lib.hid hb
  unfold prO at HC HB
  unfold prV
  clear hok hK hb
  go_enter Tryd.func27, Tryd.ntmps27
  go_wp2_with fail
  refine HC.out.mono ?_; rintro e w2 ⟨v', l', rfl, ho, hi, hv, hg, hlie⟩
  obtain ⟨p3, q3, rfl⟩ : ∃ p q, v' = .slice p l'.length q := by
    rcases ho.2 with ⟨hv, h0⟩ | ⟨g, cap, cur, hv, _⟩
    · exact ⟨none, 0, by rw [hv, h0]⟩
    · exact ⟨_, cap, hv⟩
  have HV : Hid (∃ p5 q5 l, Ending.returned (.slice p3 l'.length q3) = .returned (.slice p5 l.length q5) ∧ w2.ownsRow w0.heap.size 66 20 (.slice p5 l.length q5) l.length (vcs l) ∧ (∀ x ∈ l, x.In w0) ∧ vs l = walk p ∧ Below w.heap.size w w2 ∧ ∀ g, p5 = some ⟨g, 0, none⟩ → w.heap.size ≤ g) :=
    ⟨p3, q3, l', rfl, ho, hi, hv, HB.out.trans (((Below.refl _ _).grown hg (Nat.le_refl _) (fun k hk => by cases hk)).mono HB.out.size), fun g hg => by
      have := hlie g (by rw [hg]; rfl)
      rcases this with h | h
      · cases h
      · exact Nat.le_trans HB.out.size h⟩
  clear ho hi hv hg hlie
  go_wp2_with fail
  go_ret
  exact HV.out

set_option maxHeartbeats 4000000 in
set_option maxRecDepth 100000 in
theorem rsame_any (l : List Pm) (a b : Option Addr) (ca cb : Nat) (hl : l.length ≤ 1000000) (w : World) (ha : PmsAt w a l) (hb : PmsAt w b l) :
    Calls Tryd.prog 9 #[.slice a l.length ca, .slice b l.length cb] w fun e' w' => e' = .returned (.bool true) ∧ Below w.heap.size w w' := by
  have HA := Lib.hid ha
  have HB := Lib.hid hb
  obtain ⟨m, hm⟩ : ∃ m, l.length = m := ⟨_, rfl⟩
  have HL := Lib.hid hm
  rw [hm] at hl ⊢
  clear ha hb hm
  have bm : ((m : Int) != (m : Int)) = false := by rw [bne_eq_false_iff_eq]
  go_enter Tryd.func9, Tryd.ntmps9
  go_wp2_with fail
  go_loopw [5] (fun s5 wr => ∃ k : Nat, k ≤ m ∧ s5 = .int .i64 k ∧ Hid (Below w.heap.size w wr)) (fun s5 _ => m - (intOf s5).toNat)
  case atStart => exact ⟨0, Nat.zero_le _, rfl, Below.refl _ _⟩
  case round =>
    obtain ⟨k, hk, rfl, HBr⟩ := hrel
    by_cases hlt : k < m
    · have hlx : k < l.length := by rw [HL.out]; exact hlt
      obtain ⟨b1, i1, rfl, hc1⟩ := (HA.out.below HBr.out).open hlx
      obtain ⟨b2, i2, rfl, hc2⟩ := (HB.out.below HBr.out).open hlx
      obtain ⟨f0, f1⟩ := hc1 k hlx
      obtain ⟨g0, g1⟩ := hc2 k hlx
      generalize l[k] = q at f0 f1 g0 g1
      have HLT := Lib.hid hlt
      clear hc1 hc2
      go_wp2_with fail
      go_quiet (fail)
      go_wp2_with fail
      go_roundw
      case rel => exact ⟨k + 1, HLT.out, by go_num, below_2 HBr.out (A.below_dn _ _)⟩
      case measure => have := HLT.out; simp [intOf]; omega
    · have HBr2 := Lib.hid HBr.out
      go_wp2_with fail
      go_ret
      exact ⟨rfl, HBr2.out⟩
end Go.Proofs.YtkjefigebdbkaaaDoor.Y
namespace Go.Proofs.YtkjefigebdbkaaaDoor.Y
open Go.RowKit
open L (Str isName prt size_len below_2 below_box ret_bool ret_int eql_eq bytes_eq)
open A (Ex St Pm Pr V arity vE vEs absent exV exO Bx exV_mk exO_mk okE cE PmsAt)

theorem look_drop {l : List Pm} {k : Nat} (hk : k < l.length) (x : ByteArray) : look (l.drop k) x = if l[k].name = x then some l[k].ty else look (l.drop (k + 1)) x := by
  rw [List.drop_eq_getElem_cons hk, look_cons]
set_option maxHeartbeats 4000000 in
set_option maxRecDepth 100000 in
theorem rlookup_any (vs : List Pm) (a : Option Addr) (c : Nat) (x : ByteArray) (hl : vs.length ≤ 1000000000000000) (w : World) (hK : PmsAt w a vs) :
    Calls Tryd.prog 126 #[.slice a vs.length c, .string x] w fun e' w' => e' = .returned (.tuple #[.int .i64 (tyV (look vs) x).1, .int .i64 (tyV (look vs) x).2]) ∧ w' = w := by
  have HK := Lib.hid hK
  obtain ⟨R, hR⟩ : ∃ R, tyV (look vs) x = R := ⟨_, rfl⟩
  rw [hR]
  have HR : Hid (tyV (look (vs.drop 0)) x = R) := hR
  obtain ⟨c1, c2⟩ := R
  obtain ⟨m, hm⟩ : ∃ m, vs.length = m := ⟨_, rfl⟩
  have HL := Lib.hid hm
  rw [hm] at hl ⊢
  clear hm hR hK
  go_enter Tryd.func126, Tryd.ntmps126
  go_wp2_with fail
  go_loopw [6] (fun s6 wr => ∃ k : Nat, k ≤ m ∧ s6 = .int .i64 k ∧ Hid (tyV (look (vs.drop k)) x = (c1, c2)) ∧ wr = w) (fun s6 _ => m - (intOf s6).toNat)
  case atStart => exact ⟨0, Nat.zero_le _, rfl, HR, rfl⟩
  case round =>
    obtain ⟨k, hk, rfl, HX, rfl⟩ := hrel
    by_cases hlt : k < m
    · have hlx : k < vs.length := by rw [HL.out]; exact hlt
      obtain ⟨b3, i3, rfl, hcc⟩ := HK.out.open hlx
      obtain ⟨f0, f1⟩ := hcc k hlx
      have hlk := look_drop hlx x
      have hx := HX.out
      generalize vs[k] = q at f0 f1 hlk
      have hb := A.bytes_dec q.name x
      clear hcc
      by_cases hn : q.name = x
      · rw [decide_eq_true hn] at hb
        rw [if_pos hn] at hlk
        rw [tyV_some hlk] at hx
        clear hlk hn
        by_cases h1 : q.ty < 1
        · rw [if_neg (by omega)] at hx
          have HV : Hid (0 = c1 ∧ (10 : Int) = c2) := by injection hx with h1 h2; exact ⟨h1, h2⟩
          have b1 : decide (q.ty < 1) = true := decide_eq_true h1
          clear h1 hx
          go_wp2_with fail
          go_ret2
          exact ⟨ret_2 HV.out.1 HV.out.2, rfl⟩
        · have b1 : decide (q.ty < 1) = false := decide_eq_false h1
          by_cases h2 : 3 < q.ty
          · rw [if_neg (by omega)] at hx
            have HV : Hid (0 = c1 ∧ (10 : Int) = c2) := by injection hx with h1 h2; exact ⟨h1, h2⟩
            have b2 : decide (3 < q.ty) = true := decide_eq_true h2
            clear h1 h2 hx
            go_wp2_with fail
            go_ret2
            exact ⟨ret_2 HV.out.1 HV.out.2, rfl⟩
          · rw [if_pos (by omega)] at hx
            have HV : Hid (q.ty = c1 ∧ (0 : Int) = c2) := by injection hx with h1 h2; exact ⟨h1, h2⟩
            have b2 : decide (3 < q.ty) = false := decide_eq_false h2
            clear h1 h2 hx
            go_wp2_with fail
            go_ret2
            exact ⟨ret_2 HV.out.1 HV.out.2, rfl⟩
      · rw [decide_eq_false hn] at hb
        rw [if_neg hn] at hlk
        have HX2 : Hid (tyV (look (vs.drop (k + 1))) x = (c1, c2)) := by
          show _ = _
          rw [← hx]; unfold tyV; rw [hlk]
        clear hlk hn hx
        go_wp2_with fail
        go_roundw
        case rel => exact ⟨k + 1, by omega, by go_num, HX2.out, trivial⟩
        case measure => simp [intOf]; omega
    · have hx := HX.out
      rw [List.drop_of_length_le (by rw [HL.out]; omega), tyV_none rfl] at hx
      have HV : Hid (0 = c1 ∧ (11 : Int) = c2) := by injection hx with h1 h2; exact ⟨h1, h2⟩
      clear hx
      go_wp2_with fail
      go_ret2
      exact ⟨ret_2 HV.out.1 HV.out.2, rfl⟩
set_option maxHeartbeats 4000000 in
set_option maxRecDepth 100000 in
theorem runary_any {o : Int} (ho : o = 9 ∨ o = 18 ∨ o = 20 ∨ o = 21 ∨ o = 22 ∨ o = 23 ∨ o = 24) (w : World) :
    Calls Tryd.prog 98 #[.int .i64 o] w fun e' w' => e' = .returned (.tuple #[.int .i64 (unW o), .int .i64 (unO o)]) ∧ w' = w := by
  rcases ho with rfl | rfl | rfl | rfl | rfl | rfl | rfl
  all_goals
    go_enter Tryd.func98, Tryd.ntmps98
    go_wp2_with fail
    go_ret2
    exact ⟨ret_2 (by decide) (by decide), rfl⟩
set_option maxHeartbeats 8000000 in
set_option maxRecDepth 100000 in
theorem rbinary_any {o : Int} (ho : 4 ≤ o ∧ o ≤ 19 ∧ o ≠ 9 ∧ o ≠ 18) {a b : Int} (ha : 1 ≤ a ∧ a ≤ 3) (w : World) :
    Calls Tryd.prog 99 #[.int .i64 o, .int .i64 a, .int .i64 b] w fun e' w' => e' = .returned (.int .i64 (biO o a b)) ∧ w' = w := by
  by_cases hab : a = b
  · subst hab
    have h7 : o = 4 ∨ o = 5 ∨ o = 6 ∨ o = 7 ∨ o = 8 ∨ o = 10 ∨ o = 11 ∨ o = 12 ∨ o = 13 ∨ o = 14 ∨ o = 15 ∨ o = 16 ∨ o = 17 ∨ o = 19 := by omega
    have ha3 := rng_cases ha
    clear ho ha
    rcases h7 with rfl | rfl | rfl | rfl | rfl | rfl | rfl | rfl | rfl | rfl | rfl | rfl | rfl | rfl <;> rcases ha3 with rfl | rfl | rfl
    all_goals
      go_enter Tryd.func99, Tryd.ntmps99
      go_wp2_with fail
      go_ret
      exact ⟨ret_int (by decide), rfl⟩
  · have hb : biO o a b = 0 := by unfold biO; rw [if_pos hab]
    have b1 : (a != b) = true := bne_iff_ne.2 hab
    rw [hb]
    clear hb hab ho ha
    go_enter Tryd.func99, Tryd.ntmps99
    go_wp2_with fail
    go_ret
    exact ⟨rfl, rfl⟩
def leafR (f : Env) (e : Ex) : Int × Int := if e.op = 3 then tyV f e.s else if e.op = 2 then (2, 0) else (1, 0)
set_option maxHeartbeats 4000000 in
set_option maxRecDepth 100000 in
theorem rleaf_any (e : Ex) (a : Option Addr) (c : Nat) (vs : List Pm) (av : Option Addr) (cv : Nat) (hl : vs.length ≤ 1000000000000000) (w : World) (hP : PmsAt w av vs) :
    Calls Tryd.prog 97 #[exV e a c, .slice av vs.length cv] w fun e' w' => e' = .returned (.tuple #[.int .i64 (leafR (look vs) e).1, .int .i64 (leafR (look vs) e).2]) ∧ Below w.heap.size w w' := by
  obtain ⟨o, n, s, l⟩ := e
  have hw := below_box w (exO (.mk o n s l) a c)
  have HC := Lib.hid (rlookup_any vs av cv s hl _ (hP.below hw))
  have HW := Lib.hid hw
  simp only [exV_mk, exO_mk] at *
  have hr : leafR (look vs) (.mk o n s l) = if o = 3 then tyV (look vs) s else if o = 2 then (2, 0) else (1, 0) := rfl
  obtain ⟨Q, hQ⟩ : ∃ Q, leafR (look vs) (.mk o n s l) = Q := ⟨_, rfl⟩
  rw [hQ] at hr ⊢
  clear hQ
  generalize vs.length = m at *
  generalize tyV (look vs) s = R at *
  obtain ⟨r1, r2⟩ := R
  obtain ⟨q1, q2⟩ := Q
  clear hw hP
  by_cases h3 : o = 3
  · rw [if_pos h3] at hr
    have HV : Hid (r1 = q1 ∧ r2 = q2) := by injection hr with h1 h2; exact ⟨h1.symm, h2.symm⟩
    clear hr
    subst h3
    go_enter Tryd.func97, Tryd.ntmps97
    go_wp2_with fail
    refine HC.out.mono ?_; rintro e' w2 ⟨rfl, rfl⟩
    go_wp2_with fail
    go_ret2
    exact ⟨ret_2 HV.out.1 HV.out.2, HW.out⟩
  · have b3 : (o == 3) = false := beq_eq_false_iff_ne.2 h3
    rw [if_neg h3] at hr
    by_cases h2 : o = 2
    · rw [if_pos h2] at hr
      have HV : Hid ((2 : Int) = q1 ∧ (0 : Int) = q2) := by injection hr with h1 h2; exact ⟨h1.symm, h2.symm⟩
      clear hr
      subst h2
      clear b3 h3
      go_enter Tryd.func97, Tryd.ntmps97
      go_wp2_with fail
      go_ret2
      exact ⟨ret_2 HV.out.1 HV.out.2, HW.out⟩
    · have b2 : (o == 2) = false := beq_eq_false_iff_ne.2 h2
      rw [if_neg h2] at hr
      have HV : Hid ((1 : Int) = q1 ∧ (0 : Int) = q2) := by injection hr with h1 h2; exact ⟨h1.symm, h2.symm⟩
      clear h2 h3 hr
      go_enter Tryd.func97, Tryd.ntmps97
      go_wp2_with fail
      go_ret2
      exact ⟨ret_2 HV.out.1 HV.out.2, HW.out⟩
end Go.Proofs.YtkjefigebdbkaaaDoor.Y
namespace Go.Proofs.YtkjefigebdbkaaaDoor.Y
open Go.RowKit
open L (Str isName prt size_len below_2 below_box ret_bool ret_int eql_eq bytes_eq)
open A (Ex St Pm Pr V arity vE vEs absent exV exO Bx exV_mk exO_mk okE cE PmsAt)

def QRt (vs : List Pm) (e : Ex) : Prop := ∀ (d : Nat) (a : Option Addr) (c : Nat) (av : Option Addr) (cv : Nat) (w : World), vE e d = 0 → A.Kids w a e.args → PmsAt w av vs →
  Calls Tryd.prog 60 #[exV e a c, .slice av vs.length cv] w fun e' w' => e' = .returned (.tuple #[.int .i64 (tyE (look vs) e).1, .int .i64 (tyE (look vs) e).2]) ∧ Below w.heap.size w w'
set_option maxHeartbeats 8000000 in
set_option maxRecDepth 100000 in
theorem rtypeOf_any {vs : List Pm} (hl : vs.length ≤ 1000000000000000) : ∀ e, QRt vs e := by
  refine Ex.ind (P := QRt vs) ?_
  intro o n s l ih d a c av cv w hv hK hP
  have hw := below_box w (exO (.mk o n s l) a c)
  have hbx := Bx.new w #[.int .i64 o, .int .i64 n, .string s, .slice a l.length c] 46
  have HAR := Lib.hid (fun w => A.rarity_any o w)
  have HW := Lib.hid hw
  have hK' : A.Kids (w.alloc (exO (.mk o n s l) a c)) a l := hK.below hw
  have hP' := hP.below hw
  obtain ⟨h1, h2⟩ := vE_open hv
  obtain ⟨h0, -, -⟩ := node_open h1
  have h0' : 0 ≤ arity o := h0
  rcases arity_cases h0' with ⟨har, ho⟩ | ⟨har, ho⟩ | ⟨har, ho⟩
  · obtain ⟨rfl, hty⟩ := ty_leaf (look vs) hv har
    have HLF := Lib.hid (fun w hP => rleaf_any (.mk o n s []) a c vs av cv hl w hP)
    have hlf : leafR (look vs) (.mk o n s []) = tyE (look vs) (.mk o n s []) := by rw [hty]; rfl
    rw [hlf] at HLF
    have HP := Lib.hid hP'
    rw [har] at HAR
    have HBX := Lib.hid hbx
    simp only [exV_mk, exO_mk] at *
    generalize tyE (look vs) (.mk o n s []) = R at *
    generalize vs.length = mv at *
    obtain ⟨r1, r2⟩ := R
    clear hw hbx hK hK' hP hP' ih hv hty hlf h1 h2 h0 h0' ho har
    simp only [List.length_nil] at *
    have x := HBX.out
    have x0 := x.cell 0
    have x1 := x.cell 1
    have x2 := x.cell 2
    have x3 := x.cell 3
    clear x
    go_enter Tryd.func60, Tryd.ntmps60
    go_wp2_with fail
    refine (HAR.out _).mono ?_; rintro e' w2 ⟨rfl, rfl⟩
    have HL2 := Lib.hid (HLF.out _ HP.out)
    clear x0 x1 x2 x3
    go_wp2_with fail
    refine HL2.out.mono ?_; rintro e' w3 ⟨rfl, hb3⟩
    have HB3 := Lib.hid (below_2 HW.out hb3)
    clear hb3
    go_wp2_with fail
    go_ret2
    exact ⟨rfl, HB3.out⟩
  · obtain ⟨x, rfl, hvx, hty⟩ := ty_un (look vs) hv har
    obtain ⟨b2, i2, rfl, hat⟩ := hK'.open (show 0 < 1 by decide)
    obtain ⟨d0, d1, d2, a4, c4, d3, hk4⟩ := hat.open
    have hih : QRt vs x := ih 0 (by simp)
    have HX := Lib.hid (hih (d + 1) a4 c4 av cv _ hvx hk4 hP')
    have HUN := Lib.hid (fun w => runary_any ho w)
    have hxv : exV x a4 c4 = .agg #[.int .i64 x.op, .int .i64 x.n, .string x.s, .slice a4 x.args.length c4] := rfl
    rw [hxv] at HX
    simp only [List.getElem_cons_zero, Nat.zero_mul, Nat.add_zero] at d0 d1 d2 d3
    have x0 := hbx.cell 0
    have x3 := hbx.cell 3
    have HBX := Lib.hid hbx
    rw [har] at HAR
    simp only [exV_mk, exO_mk] at *
    obtain ⟨R, hR⟩ : ∃ R, tyE (look vs) (.mk o n s [x]) = R := ⟨_, rfl⟩
    rw [hR] at hty ⊢
    have HTY := Lib.hid hty
    generalize tyE (look vs) x = r at *
    generalize unW o = u1 at *
    generalize unO o = u2 at *
    generalize vs.length = mv at *
    generalize x.args.length = m2 at *
    generalize x.op = o2 at *
    generalize x.n = n2 at *
    generalize x.s = s2 at *
    obtain ⟨r1, r2⟩ := r
    obtain ⟨q1, q2⟩ := R
    simp only [List.length_singleton, List.getElem?_toArray, List.getElem?_cons_succ, List.getElem?_cons_zero] at *
    clear hw hbx hK hK' hP hP' ih hv hty h1 h2 h0 h0' ho har hat hk4 hih hxv hR hvx
    go_enter Tryd.func60, Tryd.ntmps60
    go_wp2_with fail
    refine (HAR.out _).mono ?_; rintro e' w2 ⟨rfl, rfl⟩
    go_wp2_with fail
    refine HX.out.mono ?_; rintro e' w3 ⟨rfl, hb3⟩
    have HB3 := Lib.hid (below_2 HW.out hb3)
    have x0' := (hb3.cell (block_lt_of_cell x0)).trans x0
    clear hb3 x3 d0 d1 d2 d3 x0
    by_cases hz : r2 = 0
    · subst hz
      by_cases hu : r1 = u1
      · have b1 : (r1 != u1) = false := by rw [hu]; exact bne_self_eq_false _
        have HV : Hid (u2 = q1 ∧ (0 : Int) = q2) := by
          have := HTY.out
          rw [if_neg (fun z => z rfl), if_neg (fun z => z hu)] at this
          injection this with h1 h2; exact ⟨h1.symm, h2.symm⟩
        clear hu
        go_wp2_with fail
        refine (HUN.out _).mono ?_; rintro e' w4 ⟨rfl, rfl⟩
        go_wp2_with fail
        go_ret2
        exact ⟨ret_2 HV.out.1 HV.out.2, HB3.out⟩
      · have b1 : (r1 != u1) = true := bne_iff_ne.2 hu
        have HV : Hid ((0 : Int) = q1 ∧ (10 : Int) = q2) := by
          have := HTY.out
          rw [if_neg (fun z => z rfl), if_pos hu] at this
          injection this with h1 h2; exact ⟨h1.symm, h2.symm⟩
        clear hu
        go_wp2_with fail
        refine (HUN.out _).mono ?_; rintro e' w4 ⟨rfl, rfl⟩
        go_wp2_with fail
        go_ret2
        exact ⟨ret_2 HV.out.1 HV.out.2, HB3.out⟩
    · have b1 : (r2 != 0) = true := bne_iff_ne.2 hz
      have HV : Hid ((0 : Int) = q1 ∧ r2 = q2) := by
        have := HTY.out
        rw [if_pos hz] at this
        injection this with h1 h2; exact ⟨h1.symm, h2.symm⟩
      clear hz
      go_wp2_with fail
      go_ret2
      exact ⟨ret_2 HV.out.1 HV.out.2, HB3.out⟩
  · obtain ⟨x, y, rfl, hvx, hvy, hty⟩ := ty_bi (look vs) hv har
    obtain ⟨b2, i2, rfl, hat⟩ := hK'.open (show 0 < 2 by decide)
    obtain ⟨d0, d1, d2, a4, c4, d3, hk4⟩ := hat.open
    obtain ⟨b2', i2', hbi, hat2⟩ := hK'.open (show 1 < 2 by decide)
    obtain ⟨rfl, rfl⟩ : b2 = b2' ∧ i2 = i2' := by injection hbi with h; injection h with h1 h2; exact ⟨h1, h2⟩
    obtain ⟨e0, e1, e2, a5, c5, e3, hk5⟩ := hat2.open
    have hih : QRt vs x := ih 0 (by simp)
    have hih2 : QRt vs y := ih 1 (by simp)
    have HX := Lib.hid (hih (d + 1) a4 c4 av cv _ hvx hk4 hP')
    have HY := Lib.hid (fun w' hb => hih2 (d + 1) a5 c5 av cv w' hvy (hk5.below hb) (hP'.below hb))
    have hrx := ty_rng (look vs) x hvx
    have HBI := Lib.hid (fun (ha : 1 ≤ (tyE (look vs) x).1 ∧ (tyE (look vs) x).1 ≤ 3) w => rbinary_any ho (b := (tyE (look vs) y).1) ha w)
    have hxv : exV x a4 c4 = .agg #[.int .i64 x.op, .int .i64 x.n, .string x.s, .slice a4 x.args.length c4] := rfl
    have hyv : exV y a5 c5 = .agg #[.int .i64 y.op, .int .i64 y.n, .string y.s, .slice a5 y.args.length c5] := rfl
    rw [hxv] at HX
    rw [hyv] at HY
    simp only [List.getElem_cons_zero, List.getElem_cons_succ, Nat.zero_mul, Nat.one_mul, Nat.add_zero] at d0 d1 d2 d3 e0 e1 e2 e3
    have x0 := hbx.cell 0
    have x3 := hbx.cell 3
    have HBX := Lib.hid hbx
    rw [har] at HAR
    simp only [exV_mk, exO_mk] at *
    obtain ⟨R, hR⟩ : ∃ R, tyE (look vs) (.mk o n s [x, y]) = R := ⟨_, rfl⟩
    rw [hR] at hty ⊢
    have HTY := Lib.hid hty
    generalize tyE (look vs) x = r at *
    generalize tyE (look vs) y = t at *
    generalize vs.length = mv at *
    generalize x.args.length = m2 at *
    generalize x.op = o2 at *
    generalize x.n = n2 at *
    generalize x.s = s2 at *
    generalize y.args.length = m3 at *
    generalize y.op = o3 at *
    generalize y.n = n3 at *
    generalize y.s = s3 at *
    obtain ⟨r1, r2⟩ := r
    obtain ⟨t1, t2⟩ := t
    obtain ⟨q1, q2⟩ := R
    simp only [List.length_cons, List.length_nil, List.getElem?_toArray, List.getElem?_cons_succ, List.getElem?_cons_zero] at *
    have HRX := Lib.hid hrx
    clear hw hbx hK hK' hP hP' ih hv hty h1 h2 h0 h0' ho har hat hat2 hk4 hk5 hih hih2 hxv hyv hR hvx hvy hbi hrx
    go_enter Tryd.func60, Tryd.ntmps60
    go_wp2_with fail
    refine (HAR.out _).mono ?_; rintro e' w2 ⟨rfl, rfl⟩
    go_wp2_with fail
    refine HX.out.mono ?_; rintro e' w3 ⟨rfl, hb3⟩
    have HB3 := Lib.hid (below_2 HW.out hb3)
    have x0' := (hb3.cell (block_lt_of_cell x0)).trans x0
    have x3' := (hb3.cell (block_lt_of_cell x3)).trans x3
    have e0' := (hb3.cell (block_lt_of_cell e0)).trans e0
    have e1' := (hb3.cell (block_lt_of_cell e1)).trans e1
    have e2' := (hb3.cell (block_lt_of_cell e2)).trans e2
    have e3' := (hb3.cell (block_lt_of_cell e3)).trans e3
    have HY3 := Lib.hid (HY.out w3 hb3)
    clear hb3 x3 d0 d1 d2 d3 x0 e0 e1 e2 e3
    by_cases hz : r2 = 0
    · subst hz
      have HRA := Lib.hid (HRX.out.resolve_right (by rintro ⟨z, -⟩; omega)).2
      go_wp2_with fail
      refine HY3.out.mono ?_; rintro e' w4 ⟨rfl, hb4⟩
      have HB4 := Lib.hid (below_2 HB3.out hb4)
      have x0'' := (hb4.cell (block_lt_of_cell x0')).trans x0'
      clear hb4 x0' x3' e0' e1' e2' e3'
      by_cases hz2 : t2 = 0
      · subst hz2
        have HBI2 := Lib.hid (HBI.out HRA.out w4)
        have hty := HTY.out
        rw [if_neg (fun z => z rfl), if_neg (fun z => z rfl)] at hty
        generalize biO o r1 t1 = v at *
        by_cases hu : v = 0
        · rw [if_pos hu] at hty
          have HV : Hid ((0 : Int) = q1 ∧ (10 : Int) = q2) := by injection hty with h1 h2; exact ⟨h1.symm, h2.symm⟩
          subst hu
          clear hty
          go_wp2_with fail
          refine HBI2.out.mono ?_; rintro e' w5 ⟨rfl, rfl⟩
          go_wp2_with fail
          go_ret2
          exact ⟨ret_2 HV.out.1 HV.out.2, HB4.out⟩
        · rw [if_neg hu] at hty
          have HV : Hid (v = q1 ∧ (0 : Int) = q2) := by injection hty with h1 h2; exact ⟨h1.symm, h2.symm⟩
          have b1 : (v == 0) = false := beq_eq_false_iff_ne.2 hu
          clear hty hu
          go_wp2_with fail
          refine HBI2.out.mono ?_; rintro e' w5 ⟨rfl, rfl⟩
          go_wp2_with fail
          go_ret2
          exact ⟨ret_2 HV.out.1 HV.out.2, HB4.out⟩
      · have b1 : (t2 != 0) = true := bne_iff_ne.2 hz2
        have HV : Hid ((0 : Int) = q1 ∧ t2 = q2) := by
          have := HTY.out
          rw [if_neg (fun z => z rfl), if_pos hz2] at this
          injection this with h1 h2; exact ⟨h1.symm, h2.symm⟩
        clear hz2
        go_wp2_with fail
        go_ret2
        exact ⟨ret_2 HV.out.1 HV.out.2, HB4.out⟩
    · have b1 : (r2 != 0) = true := bne_iff_ne.2 hz
      have HV : Hid ((0 : Int) = q1 ∧ r2 = q2) := by
        have := HTY.out
        rw [if_pos hz] at this
        injection this with h1 h2; exact ⟨h1.symm, h2.symm⟩
      clear hz
      go_wp2_with fail
      go_ret2
      exact ⟨ret_2 HV.out.1 HV.out.2, HB3.out⟩
set_option maxHeartbeats 4000000 in
set_option maxRecDepth 100000 in
theorem rOf_any (e : Ex) (a : Option Addr) (c : Nat) (vs : List Pm) (av : Option Addr) (cv : Nat) (hok : okE e) (hl : vs.length ≤ 1000000000000000) (w : World) (hK : A.Kids w a e.args) (hP : PmsAt w av vs) :
    Calls Tryd.prog 28 #[exV e a c, .slice av vs.length cv] w fun e' w' => e' = .returned (.tuple #[.int .i64 (ofE (look vs) e).1, .int .i64 (ofE (look vs) e).2]) ∧ Below w.heap.size w w' := by
  have hw := below_box w (exO e a c)
  have hbx := Bx.new w #[.int .i64 e.op, .int .i64 e.n, .string e.s, .slice a e.args.length c] 46
  have HV := Lib.hid (A.rvalidExpr_any e a c hok _ (hK.below hw))
  have HT := Lib.hid (fun w' hb hv => rtypeOf_any hl e 1 a c av cv w' hv ((hK.below hw).below hb) ((hP.below hw).below hb))
  have HW := Lib.hid hw
  have hbx' : Bx (w.alloc (exO e a c)) w.heap.size #[.int .i64 e.op, .int .i64 e.n, .string e.s, .slice a e.args.length c] 46 := hbx
  have HBX := Lib.hid hbx'
  obtain ⟨R, hR⟩ : ∃ R, ofE (look vs) e = R := ⟨_, rfl⟩
  have HR : Hid (R = if vE e 1 ≠ 0 then (0, vE e 1) else tyE (look vs) e) := by show _ = _; rw [← hR]; rfl
  rw [hR]
  obtain ⟨c1, c2⟩ := R
  generalize tyE (look vs) e = T at *
  obtain ⟨t1, t2⟩ := T
  generalize vE e 1 = x at *
  unfold exO at *
  unfold exV at *
  generalize vs.length = mv at *
  clear hw hbx hbx' hK hP hok hR
  go_enter Tryd.func28, Tryd.ntmps28
  go_wp2_with fail
  refine HV.out.mono ?_; rintro e' w2 ⟨rfl, hb2⟩
  have HB2 := Lib.hid (below_2 HW.out hb2)
  have hx2 := HBX.out.below hb2
  have x0 := hx2.cell 0
  have x1 := hx2.cell 1
  have x2 := hx2.cell 2
  have x3 := hx2.cell 3
  simp only [List.getElem?_toArray, List.getElem?_cons_succ, List.getElem?_cons_zero] at x0 x1 x2 x3
  have HT2 := Lib.hid (HT.out w2 hb2)
  clear hb2 hx2
  by_cases hz : x = 0
  · have HV2 : Hid (t1 = c1 ∧ t2 = c2) := by
      have := HR.out
      rw [if_neg (fun z => z hz)] at this
      injection this with h1 h2; exact ⟨h1.symm, h2.symm⟩
    have HT3 := Lib.hid (HT2.out hz)
    subst hz
    go_wp2_with fail
    refine HT3.out.mono ?_; rintro e' w3 ⟨rfl, hb3⟩
    have HB3 := Lib.hid (below_2 HB2.out hb3)
    clear hb3
    go_wp2_with fail
    go_ret2
    exact ⟨ret_2 HV2.out.1 HV2.out.2, HB3.out⟩
  · have b1 : (x != 0) = true := bne_iff_ne.2 hz
    have HV2 : Hid ((0 : Int) = c1 ∧ x = c2) := by
      have := HR.out
      rw [if_pos hz] at this
      injection this with h1 h2; exact ⟨h1.symm, h2.symm⟩
    clear hz
    go_wp2_with fail
    go_ret2
    exact ⟨ret_2 HV2.out.1 HV2.out.2, HB2.out⟩
end Go.Proofs.YtkjefigebdbkaaaDoor.Y
namespace Go.Proofs.YtkjefigebdbkaaaDoor.Y
open Go.RowKit
open L (Str isName prt size_len below_2 below_box ret_bool ret_int eql_eq bytes_eq)
open A (Ex St Pm Pr V arity vE vEs absent exV exO exV_mk Bx okE okEs cE cEs PmsAt StrsAt PrIn OkP prV prO names valE ExsAt ExAt StsAt StAt Bodies)

set_option maxHeartbeats 1000000 in
set_option maxRecDepth 100000 in
theorem lone_any (w : World) : Calls Tryd.prog 21 #[] w fun e w' => e = .returned (.agg #[.int .i64 1, .int .i64 1, .string ⟨#[]⟩, .slice none 0 0]) ∧ Below w.heap.size w w' := by
  have HB := Lib.hid (below_box w (.cells #[.int .i64 1, .int .i64 1, .string ⟨#[]⟩, .slice none 0 0] 46))
  go_enter Tryd.func21, Tryd.ntmps21
  go_wp2_with fail
  refine bodyPost_ret (v := .agg #[.int .i64 1, .int .i64 1, .string ⟨#[]⟩, .slice none 0 0]) (by simp [results, Tryd.results21, go_sem]) rfl ?_
  exact ⟨rfl, HB.out⟩
set_option maxHeartbeats 1000000 in
set_option maxRecDepth 100000 in
theorem ltext_any (s : ByteArray) (w : World) : Calls Tryd.prog 22 #[.string s] w fun e w' => e = .returned (.agg #[.int .i64 2, .int .i64 0, .string s, .slice none 0 0]) ∧ Below w.heap.size w w' := by
  have HB := Lib.hid (below_box w (.cells #[.int .i64 2, .int .i64 0, .string s, .slice none 0 0] 46))
  go_enter Tryd.func22, Tryd.ntmps22
  go_wp2_with fail
  refine bodyPost_ret (v := .agg #[.int .i64 2, .int .i64 0, .string s, .slice none 0 0]) (by simp [results, Tryd.results22, go_sem]) rfl ?_
  exact ⟨rfl, HB.out⟩
set_option maxHeartbeats 1000000 in
set_option maxRecDepth 100000 in
theorem lname_any (s : ByteArray) (w : World) : Calls Tryd.prog 20 #[.string s] w fun e w' => e = .returned (.agg #[.int .i64 3, .int .i64 0, .string s, .slice none 0 0]) ∧ Below w.heap.size w w' := by
  have HB := Lib.hid (below_box w (.cells #[.int .i64 3, .int .i64 0, .string s, .slice none 0 0] 46))
  go_enter Tryd.func20, Tryd.ntmps20
  go_wp2_with fail
  refine bodyPost_ret (v := .agg #[.int .i64 3, .int .i64 0, .string s, .slice none 0 0]) (by simp [results, Tryd.results20, go_sem]) rfl ?_
  exact ⟨rfl, HB.out⟩
/-! ### the examples -/
def lf (o n : Int) (s : ByteArray) : Ex := .mk o n s []
def noE : Ex := lf 0 0 ⟨#[]⟩
def oneE : Ex := lf 1 1 ⟨#[]⟩
def xE : Ex := lf 3 0 ⟨#[120]⟩
def aT : Ex := lf 2 0 ⟨#[97]⟩
def hasE : Ex := .mk 24 0 ⟨#[]⟩ [lf 2 0 ⟨#[107]⟩]
def e1 : Ex := .mk 20 0 ⟨#[]⟩ [xE]
def e2 : Ex := .mk 4 0 ⟨#[]⟩ [oneE, aT]
def e3 : Ex := .mk 4 0 ⟨#[]⟩ [xE, aT]
def pP : Pr := ⟨⟨#[112]⟩, [], [.mk 5 ⟨#[]⟩ 0 hasE noE [.mk 1 ⟨#[120]⟩ 0 oneE noE [] []] [], .mk 7 ⟨#[]⟩ 0 xE noE [] []]⟩
def qP : Pr := ⟨⟨#[113]⟩, [], [.mk 6 ⟨#[105]⟩ 2 oneE oneE [.mk 2 ⟨#[105]⟩ 0 oneE noE [] []] []]⟩
def rP : Pr := ⟨⟨#[114]⟩, [⟨⟨#[97]⟩, 2⟩], [.mk 1 ⟨#[98]⟩ 0 hasE noE [] []]⟩
def x1 : Pm := ⟨⟨#[120]⟩, 1⟩
theorem of_e1 : ofE (look [x1]) e1 = (2, 0) := by kernel_rfl
theorem of_e2 : ofE (look []) e2 = (0, 10) := by kernel_rfl
theorem of_e3 : ofE (look []) e3 = (0, 11) := by kernel_rfl
theorem chk_p : chk pP = ([], 11) := by kernel_rfl
theorem chk_q : chk qP = ([], 7) := by kernel_rfl
theorem chk_r : chk rP = ([⟨⟨#[97]⟩, 2⟩, ⟨⟨#[98]⟩, 3⟩], 0) := by kernel_rfl
theorem arg_1 : argE rP [⟨2, 0, ⟨#[107]⟩⟩] = 0 := by kernel_rfl
theorem arg_2 : argE rP [] = 1 := by kernel_rfl
theorem arg_3 : argE rP [⟨1, 0, ⟨#[]⟩⟩] = 10 := by kernel_rfl
theorem okE_lf (o n : Int) (s : ByteArray) (ho : -9223372036854775808 ≤ o ∧ o ≤ 9223372036854775807) (hn : -9223372036854775808 ≤ n ∧ n ≤ 9223372036854775807) (hs : s.size ≤ 1000000000000000) : okE (lf o n s) := by
  unfold lf
  rw [okE, okEs]
  exact ⟨ho, hn, hs, Nat.zero_le _, trivial⟩
theorem ok_noE : okE noE := okE_lf _ _ _ (by decide) (by decide) (by decide)
theorem ok_oneE : okE oneE := okE_lf _ _ _ (by decide) (by decide) (by decide)
theorem ok_xE : okE xE := okE_lf _ _ _ (by decide) (by decide) (by decide)
theorem ok_aT : okE aT := okE_lf _ _ _ (by decide) (by decide) (by decide)
theorem ok_has : okE hasE := by
  unfold hasE
  rw [okE, okEs, okEs]
  exact ⟨by decide, by decide, by decide, by decide, okE_lf _ _ _ (by decide) (by decide) (by decide), trivial⟩
theorem ok_e1 : okE e1 := by
  unfold e1
  rw [okE, okEs, okEs]
  exact ⟨by decide, by decide, by decide, by decide, ok_xE, trivial⟩
theorem ok_e2 : okE e2 := by
  unfold e2
  rw [okE, okEs, okEs, okEs]
  exact ⟨by decide, by decide, by decide, by decide, ok_oneE, ok_aT, trivial⟩
theorem ok_e3 : okE e3 := by
  unfold e3
  rw [okE, okEs, okEs, okEs]
  exact ⟨by decide, by decide, by decide, by decide, ok_xE, ok_aT, trivial⟩
theorem okS_mk {o : Int} {nm : ByteArray} {mx : Int} {a b : Ex} {bd el : List St} (h0 : -9223372036854775808 ≤ o ∧ o ≤ 9223372036854775807) (h1 : nm.size ≤ 1000000000000000) (h2 : -9223372036854775808 ≤ mx ∧ mx ≤ 9223372036854775807) (h3 : okE a) (h4 : okE b) (h5 : bd.length ≤ 1000000000000000) (h6 : A.okB bd) (h7 : el.length ≤ 1000000000000000) (h8 : A.okB el) : A.okS (.mk o nm mx a b bd el) := by
  rw [A.okS]; exact ⟨h0, h1, h2, h3, h4, h5, h6, h7, h8⟩
theorem okB_nil : A.okB [] := by rw [A.okB]; trivial
theorem okB_one {s : St} (h : A.okS s) : A.okB [s] := by rw [A.okB, A.okB]; exact ⟨h, trivial⟩
theorem ok_pP : OkP pP := by
  refine ⟨by decide, by decide, fun j h => absurd h (Nat.not_lt_zero _), by decide, ?_⟩
  show A.okB [_, _]
  rw [A.okB]
  exact ⟨okS_mk (by decide) (by decide) (by decide) ok_has ok_noE (by decide) (okB_one (okS_mk (by decide) (by decide) (by decide) ok_oneE ok_noE (by decide) okB_nil (by decide) okB_nil)) (by decide) okB_nil,
    okB_one (okS_mk (by decide) (by decide) (by decide) ok_xE ok_noE (by decide) okB_nil (by decide) okB_nil)⟩
theorem ok_qP : OkP qP :=
  ⟨by decide, by decide, fun j h => absurd h (Nat.not_lt_zero _), by decide, okB_one (okS_mk (by decide) (by decide) (by decide) ok_oneE ok_oneE (by decide) (okB_one (okS_mk (by decide) (by decide) (by decide) ok_oneE ok_noE (by decide) okB_nil (by decide) okB_nil)) (by decide) okB_nil)⟩
theorem ok_rP : OkP rP := by
  refine ⟨by decide, by decide, fun j h => ?_, by decide, okB_one (okS_mk (by decide) (by decide) (by decide) ok_has ok_noE (by decide) okB_nil (by decide) okB_nil)⟩
  have hj : j < 1 := h
  have hj0 : j = 0 := by omega
  subst hj0
  show (⟨#[97]⟩ : ByteArray).size ≤ _
  decide
theorem sz_p : A.cB pP.body ≤ 900000 := by decide +kernel
theorem sz_q : A.cB qP.body ≤ 900000 := by decide +kernel
theorem sz_r : A.cB rP.body ≤ 900000 := by decide +kernel
theorem sz_e1 : 1 + cE e1 ≤ 1000000 := by decide +kernel
theorem sz_e2 : 1 + cE e2 ≤ 1000000 := by decide +kernel
theorem sz_e3 : 1 + cE e3 ≤ 1000000 := by decide +kernel
theorem ov_1 : OkV [x1] := OkV.mk (by decide) (fun q hq => by rw [List.mem_singleton.1 hq]; decide) (fun q hq => by rw [List.mem_singleton.1 hq]; decide)
theorem ov_0 : OkV [] := OkV.mk (by decide) (fun q hq => (nomatch hq)) (fun q hq => (nomatch hq))
/-! ### where they lie -/
theorem at_lf {F : World} {g i : Nat} {o n : Int} {s : ByteArray} (h0 : F.cell? ⟨g, i, none⟩ = some (.int .i64 o)) (h1 : F.cell? ⟨g, i + 1, none⟩ = some (.int .i64 n)) (h2 : F.cell? ⟨g, i + 2, none⟩ = some (.string s)) (h3 : F.cell? ⟨g, i + 3, none⟩ = some (.slice none 0 0)) : ExAt F (lf o n s) g i :=
  ⟨h0, h1, h2, none, 0, h3, Or.inl rfl⟩
theorem kids_l1 {F : World} {g : Nat} {o n : Int} {s : ByteArray} (h : Bx F g #[.int .i64 o, .int .i64 n, .string s, .slice none 0 0] 46) : A.Kids F (some ⟨g, 0, none⟩) [lf o n s] :=
  Or.inr ⟨g, 0, rfl, at_lf (h.cell 0) (h.cell 1) (h.cell 2) (h.cell 3), trivial⟩
theorem kids_l2 {F : World} {g : Nat} {o n o' n' : Int} {s s' : ByteArray} (h : Bx F g #[.int .i64 o, .int .i64 n, .string s, .slice none 0 0, .int .i64 o', .int .i64 n', .string s', .slice none 0 0] 46) : A.Kids F (some ⟨g, 0, none⟩) [lf o n s, lf o' n' s'] :=
  Or.inr ⟨g, 0, rfl, at_lf (h.cell 0) (h.cell 1) (h.cell 2) (h.cell 3), at_lf (h.cell 4) (h.cell 5) (h.cell 6) (h.cell 7), trivial⟩
end Go.Proofs.YtkjefigebdbkaaaDoor.Y
