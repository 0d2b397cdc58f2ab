/-
  What the program's function Validate of layer 8 returns: its contract.
  What the program's functions of layer 8 return: equalStmts, slices.EqualFunc of statements: contracts.
  What the reference of layer 8 returns: Validate: a contract (over stmt's).
  What the reference of layer 8 returns: stmt: what its walks share.
  What the program's function occurs of layer 8 returns: its contract.
-/
import Derived.Test.YtkjefigebdbkaaaGreatDoorN09
import Derived.Test.YtkjefigebdbkaaaGreatDoorN08
import Derived.Test.YtkjefigebdbkaaaGreatDoorN05
import Derived.Test.YtkjefigebdbkaaaGreatDoorN07
import Derived.Deep.Cut
import Derived.Deep.RegionLaw
import Derived.Lib.SlicesS
import Derived.Deep.CutRange
import Derived.Deep.RegionHeld3
namespace Go.Proofs.YtkjefigebdbkaaaGreatDoor.A
open Go.RowKit
open L (Str isName prt size_len below_2 below_box ret_bool ret_int eql_eq bytes_eq)

set_option maxHeartbeats 2000000 in
set_option maxRecDepth 100000 in
theorem visV {w0 : World} {B : Nat} (hB : w0.heap.size ≤ B) : VisV ⟨B, 0, none⟩ gV w0 (Jb B (fun z => .int .i64 z)) := by
  refine ⟨fun n X z u ps pe w _ hX hJ hb0 hat hok => ?_, Jb.keep, Jb.wide, Jb.narrow⟩
  have hw := below_box w (.cells #[.pointer ps, .pointer pe, .int .i64 (u.d : Int)] 66)
  cases u with
  | st s d =>
    obtain ⟨b, i, rfl, rfl, hat⟩ := hat
    simp only [U.d] at *
    have hs : StAt (w.alloc (.cells #[.pointer (some ⟨b, i, none⟩), .pointer none, .int .i64 (d : Int)] 66)) s b i := (hat.below hb0).below hw
    have hd : d ≤ 1000000 := by have := hok.2; omega
    have hcs : cS s ≤ 1000000 := by have := hok.2; omega
    have HC := Lib.hid (ostmtError_any s b i d hd hok.1 hcs _ hs)
    have HP : Hid (∀ w2, Below (w.alloc (.cells #[.pointer (some ⟨b, i, none⟩), .pointer none, .int .i64 (d : Int)] 66)).heap.size (w.alloc (.cells #[.pointer (some ⟨b, i, none⟩), .pointer none, .int .i64 (d : Int)] 66)) w2 → ∀ z2 : Int,
      Jb B (fun z => .int .i64 z) (n + 1) X z2 (w2.setCell ⟨B, 0, none⟩ (.int .i64 z2)) ∧ Below w0.heap.size w (w2.setCell ⟨B, 0, none⟩ (.int .i64 z2)) ∧ ∀ k, X k → (w2.setCell ⟨B, 0, none⟩ (.int .i64 z2)).heap[k]? = w.heap[k]?) := fun w2 hb z2 => Jb.store (m := n + 1) (s2 := z2) hX hB hJ (below_2 hw hb) hb0.size
    have HJ1 := Lib.hid (hJ.1.later hw)
    have HV : Hid (gV z (.st s d) = (stE s d, (stE s d == 0))) := by
      show (stE s d, decide (stE s d = 0)) = _
      rw [Bool.beq_eq_decide_eq]
    rw [HV.out]
    generalize stE s d = x at HC ⊢
    unfold nodeV
    clear hw hJ hb0 HV hX hok hat hs
    go_enter Tryz.func39, Tryz.ntmps39
    go_wp2_with fail
    refine HC.out.mono ?_; rintro e' w2 ⟨rfl, hb⟩
    obtain ⟨n1, n2, n3⟩ := HJ1.out.later hb
    have HP2 := Lib.hid (HP.out w2 hb x)
    clear hb
    go_wp2_with fail
    go_ret
    exact ⟨rfl, HP2.out⟩
  | ex e d =>
    obtain ⟨b, i, rfl, rfl, _⟩ := hat
    have HP := Lib.hid (Jb.same (m := n + 1) hX hJ hw hb0.size)
    have HV : Hid (gV z (.ex e d) = (z, (z == 0))) := by
      show (z, decide (z = 0)) = _
      rw [Bool.beq_eq_decide_eq]
    rw [HV.out]
    have n0 := hJ.1.cell
    have n2 := (hJ.1.later hw).cell
    unfold nodeV
    simp only [U.d] at *
    clear hw hJ hb0 hX hok HV
    go_enter Tryz.func39, Tryz.ntmps39
    go_wp2_with fail
    go_ret
    exact ⟨rfl, HP.out⟩
theorem val_cases (p : Pr) : valE p = if nam p.name = false then 7 else if parE p.params ≠ 0 then parE p.params else if firstE (walk p) ≠ 0 then firstE (walk p) else if 400 < nodes p then 2 else 0 := rfl
set_option maxHeartbeats 4000000 in
set_option maxRecDepth 100000 in
theorem ovalidate_any (p : Pr) (a1 a2 : Option Addr) (c1 c2 : Nat) (hok : OkP p) (hsz : cB p.body ≤ 900000) (hc1 : p.params.length ≤ c1) (w : World) (hK : PrIn w p a1 a2) :
    Calls Tryz.prog 17 #[prV p a1 c1 a2 c2] w fun e' w' => e' = .returned (.int .i64 (valE p)) ∧ Below w.heap.size w w' := by
  have hw := below_box w (prO p a1 c1 a2 c2)
  have HBL := Lib.hid (fun w' hb => proc_later (w := w) (w' := w') (p := p) (a1 := a1) (a2 := a2) (c1 := c1) (c2 := c2) hb)
  have HI : Hid (∀ w, Calls Tryz.prog 36 #[.string p.name] w fun e' w' => e' = .returned (.bool (nam p.name)) ∧ Below w.heap.size w w') := fun w => L.oname_any p.name w
  have HPE := Lib.hid (fun w' h => oparamsError_any p.params a1 c1 hok.params w' hc1 h)
  have HN := Lib.hid (fun w' h => onodes_any p a1 a2 c1 c2 hok.body hok.bodyLen hsz w' h)
  have HWK := Lib.hid (fun (B : Nat) (hB : (w.alloc (prO p a1 c1 a2 c2)).heap.size ≤ B) (z : Int) (w' : World) (hJ : Jb B (fun z => .int .i64 z) 0 (fun _ => False) z w') (hb : Below (w.alloc (prO p a1 c1 a2 c2)).heap.size (w.alloc (prO p a1 c1 a2 c2)) w') => owalkV_any (visV (w0 := w.alloc (prO p a1 c1 a2 c2)) hB) p a1 c1 a2 c2 hok.body hok.bodyLen (by omega) (hK.below hw).body z w' hJ hb)
  have HK := Lib.hid hK
  have HW := Lib.hid hw
  have hv := val_cases p
  have hfr := first_run p
  generalize valE p = R at hv ⊢
  have HV := Lib.hid hv
  have HFR := Lib.hid hfr
  clear hv hfr hw hK hok hsz hc1
  unfold prO at HBL HW HWK
  unfold prV at *
  generalize nam p.name = nm at HI HV
  cases nm
  · have HR : Hid (R = 7) := by show _ = _; rw [HV.out, if_pos rfl]
    go_enter Tryz.func17, Tryz.ntmps17
    go_wp2_with fail
    refine (HI.out _).mono ?_; rintro e w2 ⟨rfl, hb2⟩
    have HB2 := Lib.hid (below_2 HW.out hb2)
    clear hb2
    go_wp2_with fail
    go_ret
    exact ⟨ret_int HR.out.symm, HB2.out⟩
  · go_enter Tryz.func17, Tryz.ntmps17
    go_wp2_with fail
    refine (HI.out _).mono ?_; rintro e w2 ⟨rfl, hb2⟩
    have HBX := Lib.hid hb2
    clear hb2
    obtain ⟨j0, j1, j2⟩ := HBL.out _ HBX.out
    go_wp2_with fail
    refine (HPE.out _ (HK.out.below (below_2 HW.out HBX.out)).params).mono ?_; rintro e w3 ⟨rfl, hb3⟩
    have HBX := Lib.hid (below_2 HBX.out hb3)
    clear hb3 j0 j1 j2
    by_cases hp : parE p.params = 0
    · rw [hp]
      obtain ⟨j0, j1, j2⟩ := HBL.out _ HBX.out
      have hB := HBX.out.size
      have hC := HWK.out w3.heap.size hB 0 (w3.alloc (.cells #[.int .i64 0] 28)) ⟨cell1_at rfl, fun h => h⟩ (HBX.out.trans ((below_box w3 _).mono hB))
      rw [HFR.out] at hC
      have HC := Lib.hid hC
      have HBA := Lib.hid (below_2 HBX.out (below_box w3 (.cells #[.int .i64 0] 28)))
      obtain ⟨i0, i1, i2⟩ := HBL.out _ HBA.out
      have HR2 : Hid (R = if firstE (walk p) ≠ 0 then firstE (walk p) else if 400 < nodes p then 2 else 0) := by show _ = _; rw [HV.out, if_neg (by decide), if_neg (fun h => h hp)]
      clear hC hp hB j0 j1 j2
      generalize firstE (walk p) = f at HC HR2
      go_wp2_with fail
      refine HC.out.mono ?_; rintro e w4 ⟨rfl, ⟨_, hj, _⟩, hb4⟩
      have n0 := hj.cell
      have HJ4 := Lib.hid hj
      have HB4 := Lib.hid (HBA.out.trans hb4)
      clear hj hb4 i0 i1 i2
      obtain ⟨i0, i1, i2⟩ := HBL.out _ HB4.out
      by_cases hf : f = 0
      · have bf : (f == 0) = true := beq_iff_eq.2 hf
        have HR3 : Hid (R = if 400 < nodes p then 2 else 0) := by show _ = _; rw [HR2.out, if_neg (fun h => h hf)]
        have HF : Hid (f = 0) := hf
        clear hf
        go_wp2_with fail
        refine (HN.out _ (HK.out.below (below_2 HW.out HB4.out)).body).mono ?_; rintro e w5 ⟨rfl, hb5⟩
        have n5 := (HJ4.out.later hb5).cell
        have HB5 := Lib.hid (below_2 HW.out (below_2 HB4.out hb5))
        clear hb5
        by_cases h4 : 400 < nodes p
        · have b4 : decide (400 < (nodes p : Int)) = true := decide_eq_true (by omega)
          have HR : Hid (R = 2) := by show _ = _; rw [HR3.out, if_pos h4]
          clear h4
          go_wp2_with fail
          go_ret
          exact ⟨ret_int HR.out.symm, HB5.out⟩
        · have b4 : decide (400 < (nodes p : Int)) = false := decide_eq_false (by omega)
          have HR : Hid (R = f) := by show _ = _; rw [HR3.out, if_neg h4, HF.out]
          clear h4
          go_wp2_with fail
          go_ret
          exact ⟨ret_int HR.out.symm, HB5.out⟩
      · have bf : (f == 0) = false := beq_eq_false_iff_ne.2 hf
        have HR : Hid (R = f) := by show _ = _; rw [HR2.out, if_pos hf]
        have HB5 := Lib.hid (below_2 HW.out HB4.out)
        clear hf
        go_wp2_with fail
        go_ret
        exact ⟨ret_int HR.out.symm, HB5.out⟩
    · have bp : (parE p.params != 0) = true := bne_iff_ne.2 hp
      have HR : Hid (R = parE p.params) := by show _ = _; rw [HV.out, if_neg (by decide), if_pos hp]
      have HB5 := Lib.hid (below_2 (below_2 HW.out HBX.out) (below_box w3 (.cells #[.int .i64 (parE p.params)] 28)))
      clear hp
      go_wp2_with fail
      go_ret
      exact ⟨ret_int HR.out.symm, HB5.out⟩
end Go.Proofs.YtkjefigebdbkaaaGreatDoor.A
namespace Go.Proofs.YtkjefigebdbkaaaGreatDoor.A
open Go.RowKit
open L (Str isName prt size_len below_2 below_box ret_bool ret_int eql_eq bytes_eq)

def stC (s : St) (a1 : Option Addr) (c1 : Nat) (a2 : Option Addr) (c2 : Nat) (a3 : Option Addr) (c3 : Nat) (a4 : Option Addr) (c4 : Nat) : Value :=
  .agg #[.int .i64 s.op, .string s.name, .int .i64 s.mx, .int .i64 s.a.op, .int .i64 s.a.n, .string s.a.s, .slice a1 s.a.args.length c1, .int .i64 s.b.op, .int .i64 s.b.n, .string s.b.s, .slice a2 s.b.args.length c2, .slice a3 s.body.length c3, .slice a4 s.els.length c4]
end Go.Proofs.YtkjefigebdbkaaaGreatDoor.A
namespace Go.Proofs.YtkjefigebdbkaaaGreatDoor.A
open Go.RowKit
open L (Str isName prt size_len below_2 below_box ret_bool ret_int eql_eq bytes_eq isName_any)

def RStmt : Prop := ∀ (s : St) (a1 : Option Addr) (c1 : Nat) (a2 : Option Addr) (c2 : Nat) (a3 : Option Addr) (c3 : Nat) (a4 : Option Addr) (c4 : Nat) (d : Nat), d ≤ 1000000 → okS s → ∀ w0 : World, StKids w0 s a1 a2 a3 a4 →
    Calls Tryz.prog 50 #[stC s a1 c1 a2 c2 a3 c3 a4 c4, .int .i64 (d : Int)] w0 fun e' w' => e' = .returned (.int .i64 (stE s d)) ∧ Below w0.heap.size w0 w'
end Go.Proofs.YtkjefigebdbkaaaGreatDoor.A
namespace Go.Proofs.YtkjefigebdbkaaaGreatDoor.A
open Go.RowKit
open L (Str isName prt size_len below_2 below_box ret_bool ret_int eql_eq bytes_eq isName_any)

theorem bad_bools (s : St) : badS s = (decide (s.op < 1) || decide (8 < s.op) || (!uN s.op && !decide (s.name.size = 0)) || (!uM s.op && (s.mx != 0)) || (!uA s.op && !absent s.a) || (!uB s.op && !absent s.b) || (!uD s.op && decide (0 < (s.body.length : Int))) || (!uE s.op && decide (0 < (s.els.length : Int)))) := by
  unfold badS
  rw [show (s.mx != 0) = !decide (s.mx = 0) by simp [bne, Bool.beq_eq_decide_eq], empty_len, empty_len]
structure StW (s : St) (a1 : Option Addr) (c1 : Nat) (a2 : Option Addr) (c2 : Nat) (a3 a4 : Option Addr) (va vb : Int) (NM v1 v3 v4 : Bool) : Prop where
  aa : ∀ w, Calls Tryz.prog 81 #[.agg #[.int .i64 s.a.op, .int .i64 s.a.n, .string s.a.s, .slice a1 s.a.args.length c1]] w fun e' w' => e' = .returned (.bool v3) ∧ Below w.heap.size w w'
  ab : ∀ w, Calls Tryz.prog 81 #[.agg #[.int .i64 s.b.op, .int .i64 s.b.n, .string s.b.s, .slice a2 s.b.args.length c2]] w fun e' w' => e' = .returned (.bool v4) ∧ Below w.heap.size w w'
  nam : ∀ w, Calls Tryz.prog 47 #[.string s.name] w fun e' w' => e' = .returned (.bool NM) ∧ Below w.heap.size w w'
  va : ∀ w, StKids w s a1 a2 a3 a4 → Calls Tryz.prog 82 #[.agg #[.int .i64 s.a.op, .int .i64 s.a.n, .string s.a.s, .slice a1 s.a.args.length c1]] w fun e' w' => e' = .returned (.int .i64 va) ∧ Below w.heap.size w w'
  vb : ∀ w, StKids w s a1 a2 a3 a4 → Calls Tryz.prog 82 #[.agg #[.int .i64 s.b.op, .int .i64 s.b.n, .string s.b.s, .slice a2 s.b.args.length c2]] w fun e' w' => e' = .returned (.int .i64 vb) ∧ Below w.heap.size w w'
  name : (s.name.toList == []) = v1
  name2 : s.name.toList.isEmpty = v1
theorem stW_of (s : St) (a1 : Option Addr) (c1 : Nat) (a2 : Option Addr) (c2 : Nat) (a3 a4 : Option Addr) (hok : okS s) : StW s a1 c1 a2 c2 a3 a4 (vE s.a 1) (vE s.b 1) (nam s.name) (decide (s.name.size = 0)) (absent s.a) (absent s.b) where
  aa := fun w => rabsent_any s.a a1 c1 w
  ab := fun w => rabsent_any s.b a2 c2 w
  nam := fun w => isName_any s.name (by have := (okS_open hok).name; omega) w
  va := fun w h => rvalidExpr_any s.a a1 c1 (okS_open hok).a w h.a
  vb := fun w h => rvalidExpr_any s.b a2 c2 (okS_open hok).b w h.b
  name := nil_of
  name2 := empty_of
end Go.Proofs.YtkjefigebdbkaaaGreatDoor.A
namespace Go.Proofs.YtkjefigebdbkaaaGreatDoor.A
open Go.RowKit
open L (Str isName prt size_len below_2 below_box ret_bool ret_int eql_eq bytes_eq)

theorem names_len (p : Pr) (hpl : p.params.length ≤ 1000) : (names p).length ≤ 2000 := by
  unfold names
  rw [List.length_append, List.length_map]
  have h1 := List.length_filterMap_le V.decl (walk p)
  have h2 : (walk p).length ≤ 401 := by unfold walk; rw [List.length_take]; omega
  omega
end Go.Proofs.YtkjefigebdbkaaaGreatDoor.A
