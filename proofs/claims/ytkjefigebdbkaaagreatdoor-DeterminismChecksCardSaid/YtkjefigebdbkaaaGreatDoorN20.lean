/-
  What the reference of layer 11 returns: typeOf, Of: contracts.
  The laws of layer 11: the law package's small functions, and what its examples have as answers.
  A region in whatever order, by an invariant.
  A region in whatever order: what holds of each number, once it has come up, said by kinds.
  The laws of layer 11: lists of variables joined; variables that are added.
-/
import Derived.Test.YtkjefigebdbkaaaGreatDoorN19
import Derived.Test.YtkjefigebdbkaaaGreatDoorN16
import Derived.Test.YtkjefigebdbkaaaGreatDoorN18
import Derived.Test.YtkjefigebdbkaaaGreatDoorN07
import Derived.Deep.RegionLaw
import Derived.Deep.RegionWith
import Derived.Deep.AppendLies
namespace Go.Proofs.YtkjefigebdbkaaaGreatDoor.Y
open Go.RowKit
open L (Str isName prt size_len below_2 below_box ret_bool ret_int eql_eq bytes_eq)
open A (Ex St Pm Pr V arity vE vEs absent exV exO Bx exV_mk exO_mk okE cE PmsAt)

def QRt (vs : List Pm) (e : Ex) : Prop := ∀ (d : Nat) (a : Option Addr) (c : Nat) (av : Option Addr) (cv : Nat) (w : World), vE e d = 0 → A.Kids w a e.args → PmsAt w av vs →
  Calls Tryz.prog 124 #[exV e a c, .slice av vs.length cv] w fun e' w' => e' = .returned (.tuple #[.int .i64 (tyE (look vs) e).1, .int .i64 (tyE (look vs) e).2]) ∧ Below w.heap.size w w'
set_option maxHeartbeats 8000000 in
set_option maxRecDepth 100000 in
theorem rtypeOf_any {vs : List Pm} (hl : vs.length ≤ 1000000000000000) : ∀ e, QRt vs e := by
  refine Ex.ind (P := QRt vs) ?_
  intro o n s l ih d a c av cv w hv hK hP
  have hw := below_box w (exO (.mk o n s l) a c)
  have hbx := Bx.new w #[.int .i64 o, .int .i64 n, .string s, .slice a l.length c] 41
  have HAR := Lib.hid (fun w => A.rarity_any o w)
  have HW := Lib.hid hw
  have hK' : A.Kids (w.alloc (exO (.mk o n s l) a c)) a l := hK.below hw
  have hP' := hP.below hw
  obtain ⟨h1, h2⟩ := vE_open hv
  obtain ⟨h0, -, -⟩ := node_open h1
  have h0' : 0 ≤ arity o := h0
  rcases arity_cases h0' with ⟨har, ho⟩ | ⟨har, ho⟩ | ⟨har, ho⟩
  · obtain ⟨rfl, hty⟩ := ty_leaf (look vs) hv har
    have HLF := Lib.hid (fun w hP => rleaf_any (.mk o n s []) a c vs av cv hl w hP)
    have hlf : leafR (look vs) (.mk o n s []) = tyE (look vs) (.mk o n s []) := by rw [hty]; rfl
    rw [hlf] at HLF
    have HP := Lib.hid hP'
    rw [har] at HAR
    have HBX := Lib.hid hbx
    simp only [exV_mk, exO_mk] at *
    generalize tyE (look vs) (.mk o n s []) = R at *
    generalize vs.length = mv at *
    obtain ⟨r1, r2⟩ := R
    clear hw hbx hK hK' hP hP' ih hv hty hlf h1 h2 h0 h0' ho har
    simp only [List.length_nil] at *
    have x := HBX.out
    have x0 := x.cell 0
    have x1 := x.cell 1
    have x2 := x.cell 2
    have x3 := x.cell 3
    clear x
    go_enter Tryz.func124, Tryz.ntmps124
    go_wp2_with fail
    refine (HAR.out _).mono ?_; rintro e' w2 ⟨rfl, rfl⟩
    have HL2 := Lib.hid (HLF.out _ HP.out)
    clear x0 x1 x2 x3
    go_wp2_with fail
    refine HL2.out.mono ?_; rintro e' w3 ⟨rfl, hb3⟩
    have HB3 := Lib.hid (below_2 HW.out hb3)
    clear hb3
    go_wp2_with fail
    go_ret2
    exact ⟨rfl, HB3.out⟩
  · obtain ⟨x, rfl, hvx, hty⟩ := ty_un (look vs) hv har
    obtain ⟨b2, i2, rfl, hat⟩ := hK'.open (show 0 < 1 by decide)
    obtain ⟨d0, d1, d2, a4, c4, d3, hk4⟩ := hat.open
    have hih : QRt vs x := ih 0 (by simp)
    have HX := Lib.hid (hih (d + 1) a4 c4 av cv _ hvx hk4 hP')
    have HUN := Lib.hid (fun w => runary_any ho w)
    have hxv : exV x a4 c4 = .agg #[.int .i64 x.op, .int .i64 x.n, .string x.s, .slice a4 x.args.length c4] := rfl
    rw [hxv] at HX
    simp only [List.getElem_cons_zero, Nat.zero_mul, Nat.add_zero] at d0 d1 d2 d3
    have x0 := hbx.cell 0
    have x3 := hbx.cell 3
    have HBX := Lib.hid hbx
    rw [har] at HAR
    simp only [exV_mk, exO_mk] at *
    obtain ⟨R, hR⟩ : ∃ R, tyE (look vs) (.mk o n s [x]) = R := ⟨_, rfl⟩
    rw [hR] at hty ⊢
    have HTY := Lib.hid hty
    generalize tyE (look vs) x = r at *
    generalize unW o = u1 at *
    generalize unO o = u2 at *
    generalize vs.length = mv at *
    generalize x.args.length = m2 at *
    generalize x.op = o2 at *
    generalize x.n = n2 at *
    generalize x.s = s2 at *
    obtain ⟨r1, r2⟩ := r
    obtain ⟨q1, q2⟩ := R
    simp only [List.length_singleton, List.getElem?_toArray, List.getElem?_cons_succ, List.getElem?_cons_zero] at *
    clear hw hbx hK hK' hP hP' ih hv hty h1 h2 h0 h0' ho har hat hk4 hih hxv hR hvx
    go_enter Tryz.func124, Tryz.ntmps124
    go_wp2_with fail
    refine (HAR.out _).mono ?_; rintro e' w2 ⟨rfl, rfl⟩
    go_wp2_with fail
    refine HX.out.mono ?_; rintro e' w3 ⟨rfl, hb3⟩
    have HB3 := Lib.hid (below_2 HW.out hb3)
    have x0' := (hb3.cell (block_lt_of_cell x0)).trans x0
    clear hb3 x3 d0 d1 d2 d3 x0
    by_cases hz : r2 = 0
    · subst hz
      by_cases hu : r1 = u1
      · have b1 : (r1 != u1) = false := by rw [hu]; exact bne_self_eq_false _
        have HV : Hid (u2 = q1 ∧ (0 : Int) = q2) := by
          have := HTY.out
          rw [if_neg (fun z => z rfl), if_neg (fun z => z hu)] at this
          injection this with h1 h2; exact ⟨h1.symm, h2.symm⟩
        clear hu
        go_wp2_with fail
        refine (HUN.out _).mono ?_; rintro e' w4 ⟨rfl, rfl⟩
        go_wp2_with fail
        go_ret2
        exact ⟨ret_2 HV.out.1 HV.out.2, HB3.out⟩
      · have b1 : (r1 != u1) = true := bne_iff_ne.2 hu
        have HV : Hid ((0 : Int) = q1 ∧ (10 : Int) = q2) := by
          have := HTY.out
          rw [if_neg (fun z => z rfl), if_pos hu] at this
          injection this with h1 h2; exact ⟨h1.symm, h2.symm⟩
        clear hu
        go_wp2_with fail
        refine (HUN.out _).mono ?_; rintro e' w4 ⟨rfl, rfl⟩
        go_wp2_with fail
        go_ret2
        exact ⟨ret_2 HV.out.1 HV.out.2, HB3.out⟩
    · have b1 : (r2 != 0) = true := bne_iff_ne.2 hz
      have HV : Hid ((0 : Int) = q1 ∧ r2 = q2) := by
        have := HTY.out
        rw [if_pos hz] at this
        injection this with h1 h2; exact ⟨h1.symm, h2.symm⟩
      clear hz
      go_wp2_with fail
      go_ret2
      exact ⟨ret_2 HV.out.1 HV.out.2, HB3.out⟩
  · obtain ⟨x, y, rfl, hvx, hvy, hty⟩ := ty_bi (look vs) hv har
    obtain ⟨b2, i2, rfl, hat⟩ := hK'.open (show 0 < 2 by decide)
    obtain ⟨d0, d1, d2, a4, c4, d3, hk4⟩ := hat.open
    obtain ⟨b2', i2', hbi, hat2⟩ := hK'.open (show 1 < 2 by decide)
    obtain ⟨rfl, rfl⟩ : b2 = b2' ∧ i2 = i2' := by injection hbi with h; injection h with h1 h2; exact ⟨h1, h2⟩
    obtain ⟨e0, e1, e2, a5, c5, e3, hk5⟩ := hat2.open
    have hih : QRt vs x := ih 0 (by simp)
    have hih2 : QRt vs y := ih 1 (by simp)
    have HX := Lib.hid (hih (d + 1) a4 c4 av cv _ hvx hk4 hP')
    have HY := Lib.hid (fun w' hb => hih2 (d + 1) a5 c5 av cv w' hvy (hk5.below hb) (hP'.below hb))
    have hrx := ty_rng (look vs) x hvx
    have HBI := Lib.hid (fun (ha : 1 ≤ (tyE (look vs) x).1 ∧ (tyE (look vs) x).1 ≤ 3) w => rbinary_any ho (b := (tyE (look vs) y).1) ha w)
    have hxv : exV x a4 c4 = .agg #[.int .i64 x.op, .int .i64 x.n, .string x.s, .slice a4 x.args.length c4] := rfl
    have hyv : exV y a5 c5 = .agg #[.int .i64 y.op, .int .i64 y.n, .string y.s, .slice a5 y.args.length c5] := rfl
    rw [hxv] at HX
    rw [hyv] at HY
    simp only [List.getElem_cons_zero, List.getElem_cons_succ, Nat.zero_mul, Nat.one_mul, Nat.add_zero] at d0 d1 d2 d3 e0 e1 e2 e3
    have x0 := hbx.cell 0
    have x3 := hbx.cell 3
    have HBX := Lib.hid hbx
    rw [har] at HAR
    simp only [exV_mk, exO_mk] at *
    obtain ⟨R, hR⟩ : ∃ R, tyE (look vs) (.mk o n s [x, y]) = R := ⟨_, rfl⟩
    rw [hR] at hty ⊢
    have HTY := Lib.hid hty
    generalize tyE (look vs) x = r at *
    generalize tyE (look vs) y = t at *
    generalize vs.length = mv at *
    generalize x.args.length = m2 at *
    generalize x.op = o2 at *
    generalize x.n = n2 at *
    generalize x.s = s2 at *
    generalize y.args.length = m3 at *
    generalize y.op = o3 at *
    generalize y.n = n3 at *
    generalize y.s = s3 at *
    obtain ⟨r1, r2⟩ := r
    obtain ⟨t1, t2⟩ := t
    obtain ⟨q1, q2⟩ := R
    simp only [List.length_cons, List.length_nil, List.getElem?_toArray, List.getElem?_cons_succ, List.getElem?_cons_zero] at *
    have HRX := Lib.hid hrx
    clear hw hbx hK hK' hP hP' ih hv hty h1 h2 h0 h0' ho har hat hat2 hk4 hk5 hih hih2 hxv hyv hR hvx hvy hbi hrx
    go_enter Tryz.func124, Tryz.ntmps124
    go_wp2_with fail
    refine (HAR.out _).mono ?_; rintro e' w2 ⟨rfl, rfl⟩
    go_wp2_with fail
    refine HX.out.mono ?_; rintro e' w3 ⟨rfl, hb3⟩
    have HB3 := Lib.hid (below_2 HW.out hb3)
    have x0' := (hb3.cell (block_lt_of_cell x0)).trans x0
    have x3' := (hb3.cell (block_lt_of_cell x3)).trans x3
    have e0' := (hb3.cell (block_lt_of_cell e0)).trans e0
    have e1' := (hb3.cell (block_lt_of_cell e1)).trans e1
    have e2' := (hb3.cell (block_lt_of_cell e2)).trans e2
    have e3' := (hb3.cell (block_lt_of_cell e3)).trans e3
    have HY3 := Lib.hid (HY.out w3 hb3)
    clear hb3 x3 d0 d1 d2 d3 x0 e0 e1 e2 e3
    by_cases hz : r2 = 0
    · subst hz
      have HRA := Lib.hid (HRX.out.resolve_right (by rintro ⟨z, -⟩; omega)).2
      go_wp2_with fail
      refine HY3.out.mono ?_; rintro e' w4 ⟨rfl, hb4⟩
      have HB4 := Lib.hid (below_2 HB3.out hb4)
      have x0'' := (hb4.cell (block_lt_of_cell x0')).trans x0'
      clear hb4 x0' x3' e0' e1' e2' e3'
      by_cases hz2 : t2 = 0
      · subst hz2
        have HBI2 := Lib.hid (HBI.out HRA.out w4)
        have hty := HTY.out
        rw [if_neg (fun z => z rfl), if_neg (fun z => z rfl)] at hty
        generalize biO o r1 t1 = v at *
        by_cases hu : v = 0
        · rw [if_pos hu] at hty
          have HV : Hid ((0 : Int) = q1 ∧ (10 : Int) = q2) := by injection hty with h1 h2; exact ⟨h1.symm, h2.symm⟩
          subst hu
          clear hty
          go_wp2_with fail
          refine HBI2.out.mono ?_; rintro e' w5 ⟨rfl, rfl⟩
          go_wp2_with fail
          go_ret2
          exact ⟨ret_2 HV.out.1 HV.out.2, HB4.out⟩
        · rw [if_neg hu] at hty
          have HV : Hid (v = q1 ∧ (0 : Int) = q2) := by injection hty with h1 h2; exact ⟨h1.symm, h2.symm⟩
          have b1 : (v == 0) = false := beq_eq_false_iff_ne.2 hu
          clear hty hu
          go_wp2_with fail
          refine HBI2.out.mono ?_; rintro e' w5 ⟨rfl, rfl⟩
          go_wp2_with fail
          go_ret2
          exact ⟨ret_2 HV.out.1 HV.out.2, HB4.out⟩
      · have b1 : (t2 != 0) = true := bne_iff_ne.2 hz2
        have HV : Hid ((0 : Int) = q1 ∧ t2 = q2) := by
          have := HTY.out
          rw [if_neg (fun z => z rfl), if_pos hz2] at this
          injection this with h1 h2; exact ⟨h1.symm, h2.symm⟩
        clear hz2
        go_wp2_with fail
        go_ret2
        exact ⟨ret_2 HV.out.1 HV.out.2, HB4.out⟩
    · have b1 : (r2 != 0) = true := bne_iff_ne.2 hz
      have HV : Hid ((0 : Int) = q1 ∧ r2 = q2) := by
        have := HTY.out
        rw [if_pos hz] at this
        injection this with h1 h2; exact ⟨h1.symm, h2.symm⟩
      clear hz
      go_wp2_with fail
      go_ret2
      exact ⟨ret_2 HV.out.1 HV.out.2, HB3.out⟩
set_option maxHeartbeats 4000000 in
set_option maxRecDepth 100000 in
theorem rOf_any (e : Ex) (a : Option Addr) (c : Nat) (vs : List Pm) (av : Option Addr) (cv : Nat) (hok : okE e) (hl : vs.length ≤ 1000000000000000) (w : World) (hK : A.Kids w a e.args) (hP : PmsAt w av vs) :
    Calls Tryz.prog 109 #[exV e a c, .slice av vs.length cv] w fun e' w' => e' = .returned (.tuple #[.int .i64 (ofE (look vs) e).1, .int .i64 (ofE (look vs) e).2]) ∧ Below w.heap.size w w' := by
  have hw := below_box w (exO e a c)
  have hbx := Bx.new w #[.int .i64 e.op, .int .i64 e.n, .string e.s, .slice a e.args.length c] 41
  have HV := Lib.hid (A.rvalidExpr_any e a c hok _ (hK.below hw))
  have HT := Lib.hid (fun w' hb hv => rtypeOf_any hl e 1 a c av cv w' hv ((hK.below hw).below hb) ((hP.below hw).below hb))
  have HW := Lib.hid hw
  have hbx' : Bx (w.alloc (exO e a c)) w.heap.size #[.int .i64 e.op, .int .i64 e.n, .string e.s, .slice a e.args.length c] 41 := hbx
  have HBX := Lib.hid hbx'
  obtain ⟨R, hR⟩ : ∃ R, ofE (look vs) e = R := ⟨_, rfl⟩
  have HR : Hid (R = if vE e 1 ≠ 0 then (0, vE e 1) else tyE (look vs) e) := by show _ = _; rw [← hR]; rfl
  rw [hR]
  obtain ⟨c1, c2⟩ := R
  generalize tyE (look vs) e = T at *
  obtain ⟨t1, t2⟩ := T
  generalize vE e 1 = x at *
  unfold exO at *
  unfold exV at *
  generalize vs.length = mv at *
  clear hw hbx hbx' hK hP hok hR
  go_enter Tryz.func109, Tryz.ntmps109
  go_wp2_with fail
  refine HV.out.mono ?_; rintro e' w2 ⟨rfl, hb2⟩
  have HB2 := Lib.hid (below_2 HW.out hb2)
  have hx2 := HBX.out.below hb2
  have x0 := hx2.cell 0
  have x1 := hx2.cell 1
  have x2 := hx2.cell 2
  have x3 := hx2.cell 3
  simp only [List.getElem?_toArray, List.getElem?_cons_succ, List.getElem?_cons_zero] at x0 x1 x2 x3
  have HT2 := Lib.hid (HT.out w2 hb2)
  clear hb2 hx2
  by_cases hz : x = 0
  · have HV2 : Hid (t1 = c1 ∧ t2 = c2) := by
      have := HR.out
      rw [if_neg (fun z => z hz)] at this
      injection this with h1 h2; exact ⟨h1.symm, h2.symm⟩
    have HT3 := Lib.hid (HT2.out hz)
    subst hz
    go_wp2_with fail
    refine HT3.out.mono ?_; rintro e' w3 ⟨rfl, hb3⟩
    have HB3 := Lib.hid (below_2 HB2.out hb3)
    clear hb3
    go_wp2_with fail
    go_ret2
    exact ⟨ret_2 HV2.out.1 HV2.out.2, HB3.out⟩
  · have b1 : (x != 0) = true := bne_iff_ne.2 hz
    have HV2 : Hid ((0 : Int) = c1 ∧ x = c2) := by
      have := HR.out
      rw [if_pos hz] at this
      injection this with h1 h2; exact ⟨h1.symm, h2.symm⟩
    clear hz
    go_wp2_with fail
    go_ret2
    exact ⟨ret_2 HV2.out.1 HV2.out.2, HB2.out⟩
end Go.Proofs.YtkjefigebdbkaaaGreatDoor.Y
namespace Go.Proofs.YtkjefigebdbkaaaGreatDoor.Y
open Go.RowKit
open L (Str isName prt size_len below_2 below_box ret_bool ret_int eql_eq bytes_eq)
open A (Ex St Pm Pr V arity vE vEs absent exV exO exV_mk Bx okE okEs cE cEs PmsAt StrsAt PrIn OkP prV prO names valE ExsAt ExAt StsAt StAt Bodies)

/-! ### the examples -/
def lf (o n : Int) (s : ByteArray) : Ex := .mk o n s []
def oneE : Ex := lf 1 1 ⟨#[]⟩
def xE : Ex := lf 3 0 ⟨#[120]⟩
def aT : Ex := lf 2 0 ⟨#[97]⟩
def e1 : Ex := .mk 20 0 ⟨#[]⟩ [xE]
def e2 : Ex := .mk 4 0 ⟨#[]⟩ [oneE, aT]
def e3 : Ex := .mk 4 0 ⟨#[]⟩ [xE, aT]
def x1 : Pm := ⟨⟨#[120]⟩, 1⟩
end Go.Proofs.YtkjefigebdbkaaaGreatDoor.Y
namespace Go.Proofs.YtkjefigebdbkaaaGreatDoor.P
open Go.RowKit
abbrev On (l : Array Bool) (j : Nat) : Prop := l.getD j false = true
theorem on_set {l : Array Bool} {i : Nat} (hi : l.getD i true = false) (j : Nat) : On (l.setIfInBounds i true) j ↔ (j = i ∨ On l j) := by
  unfold On
  by_cases h : i = j
  · subst h
    have hlt : i < l.size := by
      rcases Nat.lt_or_ge i l.size with h' | h'
      · exact h'
      · simp [Array.getElem?_eq_none h'] at hi
    simp [hlt]
  · rw [getD_set_ne false h]
    constructor
    · exact Or.inr
    · rintro (e | e)
      · exact absurd e.symm h
      · exact e
def deps (ops : Array Oper) (i : Nat) : List Nat := match ops[i]? with
  | none => []
  | some o => (o.after.toList.filter (Region.binds .any)).map (·.on)
def backs (ops : Array Oper) : Bool := (List.range ops.size).all fun i => (deps ops i).all (decide <| · < i)
theorem deps_of {ops : Array Oper} {i : Nat} {o : Oper} (ho : ops[i]? = some o) {l : Array Bool} (h : ∀ e ∈ o.after, Region.binds .any e = true → On l e.on) : ∀ j ∈ deps ops i, On l j := by
  intro j hj
  unfold deps at hj
  rw [ho] at hj
  obtain ⟨e, he, rfl⟩ := List.mem_map.1 hj
  obtain ⟨h1, h2⟩ := List.mem_filter.1 he
  exact h e (Array.mem_def.2 h1) h2
theorem mem_deps {ops : Array Oper} {i : Nat} {o : Oper} (ho : ops[i]? = some o) {e : Edge} (he : e ∈ o.after) (hb : Region.binds .any e = true) : e.on ∈ deps ops i := by
  unfold deps
  rw [ho]
  exact List.mem_map.2 ⟨e, List.mem_filter.2 ⟨Array.mem_def.1 he, hb⟩, rfl⟩
theorem wpAny_inv {P : Program} {ops : Array Oper} {Q : Exit → Act → World → Prop} (I : Array Bool → Act → World → Prop)
    (hback : backs ops = true)
    (hstep : ∀ l a w, I l a w → ∀ i, i < ops.size → l.getD i true = false → (∀ j ∈ deps ops i, On l j) → wpOp P ops Q i (I (l.setIfInBounds i true)) a w)
    (hdone : ∀ l a w, I l a w → (∀ j, j < ops.size → On l j) → Q .normal a w) :
    ∀ (fuel : Nat) (l : Array Bool) (a : Act) (w : World), l.size = ops.size → I l a w → l.toList.count false ≤ fuel → wpAny P .any ops Q fuel l a w := by
  have hend : ∀ (l : Array Bool), l.size = ops.size → Region.ready .any ops l = [] → ∀ j, j < ops.size → On l j := by
    intro l hl hr j
    induction j using Nat.strongRecOn with
    | ind j ih =>
      intro hj
      by_cases h : l.getD j true = false
      · have : j ∈ Region.ready .any ops l := mem_ready.2 ⟨h, ops[j], Array.getElem?_eq_getElem hj, fun e he hb => by
          have hlt : e.on < j := of_decide_eq_true (List.all_eq_true.1 (List.all_eq_true.1 hback j (List.mem_range.2 hj)) e.on (mem_deps (Array.getElem?_eq_getElem hj) he hb))
          exact ih _ hlt (Nat.lt_trans hlt hj)⟩
        rw [hr] at this
        cases this
      · have hj' : j < l.size := by omega
        unfold On
        simp [hj'] at h ⊢
        exact h
  intro fuel
  induction fuel with
  | zero =>
    intro l a w hl hI hc
    have hr : Region.ready .any ops l = [] := by
      rw [List.eq_nil_iff_forall_not_mem]
      intro i hi
      have h := (mem_ready.1 hi).1
      have hm : false ∈ l.toList := by
        rcases Nat.lt_or_ge i l.size with h' | h'
        · simp [h'] at h
          rw [← h]
          simp
        · simp [Array.getElem?_eq_none h'] at h
      have := List.count_pos_iff.2 hm
      omega
    exact ⟨hr, hdone l a w hI (hend l hl hr)⟩
  | succ fuel ih =>
    intro l a w hl hI hc
    refine ⟨fun hr => hdone l a w hI (hend l hl hr), fun i hi => ?_⟩
    obtain ⟨h0, o, ho, hall⟩ := mem_ready.1 hi
    have hlt : i < l.size := by
      rcases Nat.lt_or_ge i l.size with h' | h'
      · exact h'
      · simp [Array.getElem?_eq_none h'] at h0
    refine wpOp_mono (fun a' w' h => ih _ a' w' (by simpa using hl) h ?_) (hstep l a w hI i (by omega) h0 (deps_of ho hall))
    have hv : l[i] = false := by simpa [hlt] using h0
    have hm : 0 < l.toList.count false := List.count_pos_iff.2 (by rw [← hv]; simp)
    rw [Array.toList_setIfInBounds, List.count_set (by simpa using hlt)]
    simp [hv]; rw [← Array.count_toList]
    omega
theorem wp_region_inv {P : Program} {id : Nat} {ops : Array Oper} {Q : Exit → Act → World → Prop} {a : Act} {w : World} (hm : P.follows .mixedOrders = true) (I : Array Bool → Act → World → Prop)
    (hback : backs ops = true)
    (h0 : ∀ l, (∀ j, ¬ On l j) → I l a { w with drawn := w.drawn + 1 })
    (hstep : ∀ l a w, I l a w → ∀ i, i < ops.size → l.getD i true = false → (∀ j ∈ deps ops i, On l j) → wpOp P ops Q i (I (l.setIfInBounds i true)) a w)
    (hdone : ∀ l a w, I l a w → (∀ j, j < ops.size → On l j) → Q .normal a w) : (Code.region id ops true).wp P Q a w := by
  refine wp_region_any hm (wpAny_inv I hback hstep hdone _ _ _ _ (by simp) (h0 _ (fun j h => ?_)) (by simp))
  unfold On at h
  by_cases hj : j < ops.size
  · simp [hj] at h
  · simp [Array.getElem?_eq_none (show (Array.replicate ops.size false).size ≤ j by simpa using hj)] at h
end Go.Proofs.YtkjefigebdbkaaaGreatDoor.P
namespace Go.Proofs.YtkjefigebdbkaaaGreatDoor.P
open Go.RowKit
open A (Bx)
theorem off_of {l : Array Bool} {i : Nat} (h : l.getD i true = false) : ¬ On l i := fun h2 => by
  unfold On at h2
  rcases Nat.lt_or_ge i l.size with h' | h'
  · simp [h'] at h h2; rw [h] at h2; cases h2
  · simp [Array.getElem?_eq_none h'] at h
theorem getD_other {vs : List Value} {i j : Nat} (h : j ≠ i) (x : Value) : (vs.set i x).getD j undef = vs.getD j undef := by
  simp only [List.getD_eq_getElem?_getD]
  rw [List.getElem?_set_ne (Ne.symm h)]
theorem getD_self {vs : List Value} {i : Nat} (h : i < vs.length) (x : Value) : (vs.set i x).getD i undef = x := by
  simp only [List.getD_eq_getElem?_getD]
  rw [List.getElem?_set_self h]
  rfl
section
end
end Go.Proofs.YtkjefigebdbkaaaGreatDoor.P
namespace Go.Proofs.YtkjefigebdbkaaaGreatDoor.Y
open Go.RowKit
open L (Str isName prt size_len below_2 below_box ret_bool ret_int eql_eq bytes_eq)
open A (Ex St Pm Pr V arity vE vEs absent exV exO exV_mk Bx okE okEs cE cEs PmsAt StrsAt PrIn OkP prV prO names valE ExsAt ExAt StsAt StAt Bodies RowK Own1 Stays)
open P (On off_of)

theorem run_append_0 {P : Program} (w : World) (t ty e : TypeId) (i : TypeInfo) (ht : P.underlying t = some (.slice e)) (hi : P.info? e = some i) (s : Option Addr) (n cap : Nat) (hle : n ≤ cap) (x : Option Addr) (c : Nat) :
    (Builtin.append_ #[t, t] ty #[.slice s n cap, .slice x 0 c]).run P w = .ok (.slice s n cap) w := by
  have hl : ∀ w', (Builtin.lenOf (.slice x 0 c)).run P w' = .ok 0 w' := fun _ => rfl
  have hc : (Builtin.firstCells i.size 0 (.slice x 0 c)).run P w = .ok #[] w := by
    cases x with
    | none => exact run_firstCells_none w i.size 0 0 c
    | some a => exact run_firstCells_some w i.size 0 a 0 c [] (by simp) (fun j u h => by simp at h)
  cases s <;> simp [Builtin.append_, run_underlying ht, sizeOf, typeInfo, hi, hle, hl, hc, storeCells]
theorem flat_get (l : List Pm) (j : Nat) (u : Value) (h : (kP.cs l)[j]? = some u) : ∃ k r, k < l.length ∧ r < 2 ∧ j = k * 2 + r := by
  have hlt := (List.getElem?_eq_some_iff.1 h).1
  rw [RowK.cs_len] at hlt
  have hs : kP.size = 2 := rfl
  rw [hs] at hlt
  exact ⟨j / 2, j % 2, by omega, by omega, by omega⟩
theorem pms_news {w : World} {b i : Nat} {l : List Pm} (h : ∀ j (h : j < l.length), w.cell? ⟨b, i + j * 2, none⟩ = some (.string l[j].name) ∧ w.cell? ⟨b, i + j * 2 + 1, none⟩ = some (.int .i64 l[j].ty)) :
    ∀ j u, (kP.cs l)[j]? = some u → w.cell? ((⟨b, i, none⟩ : Addr).add j) = some u := by
  intro j u hu
  obtain ⟨k, r, hk, hr, rfl⟩ := flat_get l j u hu
  have hg := RowK.cs_get kP l k hk r hr
  have hs : kP.size = 2 := rfl
  rw [hs] at hg
  rw [hg] at hu
  obtain ⟨h0, h1⟩ := h k hk
  rw [WideShapes.add_plain]
  have h2 : r = 0 ∨ r = 1 := by omega
  rcases h2 with rfl | rfl
  · rw [Nat.add_zero, h0]; exact hu
  · rw [← Nat.add_assoc, h1]; exact hu
theorem wpList_append_pms {w : World} {ops : Array Oper} {rest : List Oper} {o : Oper} {a : Act} {Q : Exit → Act → World → Prop} (hgd : o.guard = none) (s x : Operand)
    (ho : o.op = .call { callee := .builtin .append, args := #[s, x], argTypes := #[22, 22] })
    (base : Nat) (Z : Nat → Prop) (p : Option Addr) (n q : Nat) (l m : List Pm) (hn : n = l.length) (hs : a.eval s = .slice p n q) (hown : Own1 kP w base Z (.slice p l.length q) l)
    (xa : Option Addr) (mm xc : Nat) (hmm : mm = m.length) (hx : a.eval x = .slice xa mm xc) (hP : PmsAt w xa m) (hl : l.length + m.length ≤ 1000000) (hbase : base ≤ w.heap.size) (hZ : ∀ k, Z k → k < base)
    (h : ∀ p' q' w', Own1 kP w' base Z (.slice p' (l ++ m).length q') (l ++ m) → w.grownBy w' (Value.slice p l.length q).ownBlock → Go.wpList Tryz.prog ops Q rest (a.put o.dst (.slice p' (n + mm) q')) w') :
    Go.wpList Tryz.prog ops Q (o :: rest) a w := by
  subst hn hmm
  obtain ⟨i0, hi, hz0, hz1, hz2⟩ := A.info_parts3 kP.info
  rcases hP with rfl | ⟨b, i, rfl, hc⟩
  · obtain ⟨p2, q2, hv, hle⟩ := hown.shape
    injection hv with h1 h2 h3
    subst h1 h3
    refine wpList_plain hgd fun K hK' => ?_
    have hrun := run_append_0 (P := Tryz.prog) w 22 o.type 52 i0 kP.und hi p l.length q hle xa xc
    unfold Oper.wp
    simp [execOp, ho, resolve, invoke, builtin, hs, hx, hrun, Result.andThen]
    refine hK' _ _ ?_
    have := h p q w (by rw [List.append_nil]; exact hown) (World.grownBy.refl _ _)
    simpa using this
  · by_cases h0 : m.length = 0
    · obtain rfl : m = [] := List.eq_nil_of_length_eq_zero h0
      obtain ⟨p2, q2, hv, hle⟩ := hown.shape
      injection hv with h1 h2 h3
      subst h1 h3
      refine wpList_plain hgd fun K hK' => ?_
      have hrun := run_append_0 (P := Tryz.prog) w 22 o.type 52 i0 kP.und hi p l.length q hle (some ⟨b, i, none⟩) xc
      unfold Oper.wp
      simp [execOp, ho, resolve, invoke, builtin, hs, hx, hrun, Result.andThen]
      refine hK' _ _ ?_
      have := h p q w (by rw [List.append_nil]; exact hown) (World.grownBy.refl _ _)
      simpa using this
    · refine wpList_append_lies _ hgd s x kP.t ho base kP.e i0 _ kP.size kP.bytes kP.und hi hz0 hz1 hz2 kP.zs kP.pos (.slice p l.length q) l.length (kP.cs l) hs hown.row ⟨b, i, none⟩ m.length xc (kP.cs m) hx (RowK.cs_len kP m) (pms_news hc) ?_ (by omega) (by unfold maxLen; omega) ?_ hbase w.heap.size rfl ?_
      · intro u hu
        obtain ⟨y, hy, hu⟩ := List.mem_flatMap.1 hu
        exact kP.one y u hu
      · show (l.length + m.length) * 24 ≤ _
        omega
      · intro g cap w' h1 h2 h3 _
        refine h (some ⟨g, 0, none⟩) cap w' ⟨?_, fun g' hg hz => ?_, fun _ _ => trivial⟩ h2
        · rw [List.length_append, RowK.cs_app]; exact h1
        · have hk2 : g = g' := by injection hg
          subst hk2
          have := hZ g hz
          rcases h3 with h3 | h3
          · have := (hown.lt g h3).1; omega
          · omega
end Go.Proofs.YtkjefigebdbkaaaGreatDoor.Y
