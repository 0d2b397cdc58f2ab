/-
  What the program's functions of layer 8 return: Nodes, Depth: contracts.
  What the program's function Validate of layer 8 returns: its contract.
  What the program's functions of layer 8 return: equalStmts, slices.EqualFunc of statements: contracts.
  What the reference of layer 8 returns: stmt: what its walks share.
  What the program's function occurs of layer 8 returns: its contract.
-/
import Derived.Test.YtkjefigebdbkaaaDoorM08
import Derived.Test.YtkjefigebdbkaaaDoorM05
import Derived.Test.YtkjefigebdbkaaaDoorM07
import Derived.Deep.Cut
import Derived.Deep.RegionLaw
import Derived.BigQuiet
import Derived.Test.YtkjefigebdbkaaaDoorM06
import Derived.Laws.OwnMore
import Derived.Lib.SlicesS
import Derived.Deep.CutRange
import Derived.Deep.RegionHeld3
namespace Go.Proofs.YtkjefigebdbkaaaDoor.A
open Go.RowKit
open L (Str isName prt size_len below_2 below_box ret_bool ret_int eql_eq bytes_eq)

/-- a step that writes one variable: what it keeps -/
def Jb {σ : Type} (B : Nat) (f : σ → Value) (_ : Nat) (X : Nat → Prop) (s : σ) (w : World) : Prop := Cell1 B (f s) w ∧ ¬ X B
theorem Jb.keep {σ : Type} {B : Nat} {f : σ → Value} (n : Nat) (X : Nat → Prop) (s : σ) (w w' : World) (h : Jb B f n X s w) (_ : w.heap.size ≤ w'.heap.size) (hk : ∀ k, k < w.heap.size → ¬ X k → w'.heap[k]? = w.heap[k]?) : Jb B f n X s w' := ⟨h.1.moved (hk B h.1.lt h.2), h.2⟩
theorem Jb.wide {σ : Type} {B : Nat} {f : σ → Value} (n : Nat) (X : Nat → Prop) (s : σ) (w : World) (h : Jb B f n (fun _ => False) s w) (hx : ∀ k, X k → w.heap.size ≤ k) : Jb B f n X s w := ⟨h.1, fun hb => by have := hx B hb; have := h.1.lt; omega⟩
theorem Jb.narrow {σ : Type} {B : Nat} {f : σ → Value} (n : Nat) (X : Nat → Prop) (s : σ) (w : World) (h : Jb B f n X s w) : Jb B f n (fun _ => False) s w := ⟨h.1, fun hf => hf⟩
/-- a store into the step's variable -/
theorem Jb.store {σ : Type} {n m B : Nat} {f : σ → Value} {X : Nat → Prop} {s s2 : σ} {w0 w w2 : World} (hX : ∀ k, X k → w0.heap.size ≤ k ∧ k < w.heap.size) (hB : w0.heap.size ≤ B) (h : Jb B f n X s w) (hb : Below w.heap.size w w2) (hz : w0.heap.size ≤ w.heap.size) :
    Jb B f m X s2 (w2.setCell ⟨B, 0, none⟩ (f s2)) ∧ Below w0.heap.size w (w2.setCell ⟨B, 0, none⟩ (f s2)) ∧ ∀ k, X k → (w2.setCell ⟨B, 0, none⟩ (f s2)).heap[k]? = w.heap[k]? :=
  ⟨⟨(h.1.later hb).set, h.2⟩, (hb.mono hz).setCell hB _, fun k hk => (Below.heap_setCell _ _ _ _ (fun e => h.2 (by rw [show B = k from e.symm]; exact hk))).trans (hb.block k (hX k hk).2)⟩
theorem Jb.same {σ : Type} {n m B : Nat} {f : σ → Value} {X : Nat → Prop} {s : σ} {w0 w w2 : World} (hX : ∀ k, X k → w0.heap.size ≤ k ∧ k < w.heap.size) (h : Jb B f n X s w) (hb : Below w.heap.size w w2) (hz : w0.heap.size ≤ w.heap.size) :
    Jb B f m X s w2 ∧ Below w0.heap.size w w2 ∧ ∀ k, X k → w2.heap[k]? = w.heap[k]? := ⟨⟨h.1.later hb, h.2⟩, hb.mono hz, fun k hk => hb.block k (hX k hk).2⟩
set_option maxHeartbeats 2000000 in
set_option maxRecDepth 100000 in
theorem visN {w0 : World} {B : Nat} (hB : w0.heap.size ≤ B) : VisN ⟨B, 0, none⟩ gN w0 (Jb B (fun z => .int .i64 z)) := by
  refine ⟨fun n X z u ps pe w _ hX hJ hb0 _ _ => ?_, Jb.keep, Jb.wide, Jb.narrow⟩
  obtain ⟨z2, hz⟩ : ∃ z2, IntKind.i64.wrap (z + 1) = z2 := ⟨_, rfl⟩
  have hw := below_box w (.cells #[.pointer ps, .pointer pe, .int .i64 (u.d : Int)] 111)
  have HP := Lib.hid (Jb.store (m := n + 1) (s2 := z2) hX hB hJ hw hb0.size)
  have HV : Hid (gN z u = (z2, true)) := by show _ = _; unfold gN; rw [hz]
  rw [HV.out]
  obtain ⟨n1, n2, n3⟩ := hJ.1.later hw
  have n0 := hJ.1.cell
  unfold nodeV
  clear hw hJ hb0 HV hX
  go_enter Tryd.func109, Tryd.ntmps109
  go_wp2_with fail
  go_ret
  exact ⟨rfl, HP.out⟩
set_option maxHeartbeats 2000000 in
set_option maxRecDepth 100000 in
theorem onodes_any (p : Pr) (a1 a2 : Option Addr) (c1 c2 : Nat) (hok : okB p.body) (hl : p.body.length ≤ 1000000000000000) (hsz : cB p.body ≤ 900000) (w : World) (hK : Bodies w a2 p.body) :
    Calls Tryd.prog 68 #[prV p a1 c1 a2 c2] w fun e' w' => e' = .returned (.int .i64 (nodes p : Int)) ∧ Below w.heap.size w w' := by
  have hw := below_2 (below_box w (prO p a1 c1 a2 c2)) (below_box _ (.cells #[.int .i64 0] 3))
  have hJ : Jb (w.heap.size + 1) (fun z => .int .i64 z) 0 (fun _ => False) (0 : Int) ((w.alloc (prO p a1 c1 a2 c2)).alloc (.cells #[.int .i64 0] 3)) := ⟨cell1_at (by simp), fun h => h⟩
  have hC := owalkN_any (visN (w0 := w) (B := w.heap.size + 1) (by omega)) p a1 c1 a2 c2 hok hl (by omega) hK 0 _ hJ hw
  rw [nodes_run] at hC
  have HC := Lib.hid hC
  have HW := Lib.hid hw
  generalize nodes p = n at HC ⊢
  unfold prO at HC HW
  unfold prV at *
  clear hw hJ hC hok hl hsz hK
  go_enter Tryd.func68, Tryd.ntmps68
  go_wp2_with fail
  refine HC.out.mono ?_; rintro e' w2 ⟨rfl, ⟨_, hj, _⟩, hb2⟩
  have n0 := hj.cell
  have HB := Lib.hid (HW.out.trans hb2)
  clear hj hb2
  go_wp2_with fail
  go_ret
  exact ⟨rfl, HB.out⟩
end Go.Proofs.YtkjefigebdbkaaaDoor.A
namespace Go.Proofs.YtkjefigebdbkaaaDoor.A
open Go.RowKit
open L (Str isName prt size_len below_2 below_box ret_bool ret_int eql_eq bytes_eq)

set_option maxHeartbeats 2000000 in
set_option maxRecDepth 100000 in
theorem visV {w0 : World} {B : Nat} (hB : w0.heap.size ≤ B) : VisV ⟨B, 0, none⟩ gV w0 (Jb B (fun z => .int .i64 z)) := by
  refine ⟨fun n X z u ps pe w _ hX hJ hb0 hat hok => ?_, Jb.keep, Jb.wide, Jb.narrow⟩
  have hw := below_box w (.cells #[.pointer ps, .pointer pe, .int .i64 (u.d : Int)] 111)
  cases u with
  | st s d =>
    obtain ⟨b, i, rfl, rfl, hat⟩ := hat
    simp only [U.d] at *
    have hs : StAt (w.alloc (.cells #[.pointer (some ⟨b, i, none⟩), .pointer none, .int .i64 (d : Int)] 111)) s b i := (hat.below hb0).below hw
    have hd : d ≤ 1000000 := by have := hok.2; omega
    have hcs : cS s ≤ 1000000 := by have := hok.2; omega
    have HC := Lib.hid (ostmtError_any s b i d hd hok.1 hcs _ hs)
    have HP : Hid (∀ w2, Below (w.alloc (.cells #[.pointer (some ⟨b, i, none⟩), .pointer none, .int .i64 (d : Int)] 111)).heap.size (w.alloc (.cells #[.pointer (some ⟨b, i, none⟩), .pointer none, .int .i64 (d : Int)] 111)) w2 → ∀ z2 : Int,
      Jb B (fun z => .int .i64 z) (n + 1) X z2 (w2.setCell ⟨B, 0, none⟩ (.int .i64 z2)) ∧ Below w0.heap.size w (w2.setCell ⟨B, 0, none⟩ (.int .i64 z2)) ∧ ∀ k, X k → (w2.setCell ⟨B, 0, none⟩ (.int .i64 z2)).heap[k]? = w.heap[k]?) := fun w2 hb z2 => Jb.store (m := n + 1) (s2 := z2) hX hB hJ (below_2 hw hb) hb0.size
    have HJ1 := Lib.hid (hJ.1.later hw)
    have HV : Hid (gV z (.st s d) = (stE s d, (stE s d == 0))) := by
      show (stE s d, decide (stE s d = 0)) = _
      rw [Bool.beq_eq_decide_eq]
    rw [HV.out]
    generalize stE s d = x at HC ⊢
    unfold nodeV
    clear hw hJ hb0 HV hX hok hat hs
    go_enter Tryd.func66, Tryd.ntmps66
    go_wp2_with fail
    refine HC.out.mono ?_; rintro e' w2 ⟨rfl, hb⟩
    obtain ⟨n1, n2, n3⟩ := HJ1.out.later hb
    have HP2 := Lib.hid (HP.out w2 hb x)
    clear hb
    go_wp2_with fail
    go_ret
    exact ⟨rfl, HP2.out⟩
  | ex e d =>
    obtain ⟨b, i, rfl, rfl, _⟩ := hat
    have HP := Lib.hid (Jb.same (m := n + 1) hX hJ hw hb0.size)
    have HV : Hid (gV z (.ex e d) = (z, (z == 0))) := by
      show (z, decide (z = 0)) = _
      rw [Bool.beq_eq_decide_eq]
    rw [HV.out]
    have n0 := hJ.1.cell
    have n2 := (hJ.1.later hw).cell
    unfold nodeV
    simp only [U.d] at *
    clear hw hJ hb0 hX hok HV
    go_enter Tryd.func66, Tryd.ntmps66
    go_wp2_with fail
    go_ret
    exact ⟨rfl, HP.out⟩
theorem val_cases (p : Pr) : valE p = if nam p.name = false then 7 else if parE p.params ≠ 0 then parE p.params else if firstE (walk p) ≠ 0 then firstE (walk p) else if 400 < nodes p then 2 else 0 := rfl
set_option maxHeartbeats 4000000 in
set_option maxRecDepth 100000 in
theorem ovalidate_any (p : Pr) (a1 a2 : Option Addr) (c1 c2 : Nat) (hok : OkP p) (hsz : cB p.body ≤ 900000) (hc1 : p.params.length ≤ c1) (w : World) (hK : PrIn w p a1 a2) :
    Calls Tryd.prog 36 #[prV p a1 c1 a2 c2] w fun e' w' => e' = .returned (.int .i64 (valE p)) ∧ Below w.heap.size w w' := by
  have hw := below_box w (prO p a1 c1 a2 c2)
  have HBL := Lib.hid (fun w' hb => proc_later (w := w) (w' := w') (p := p) (a1 := a1) (a2 := a2) (c1 := c1) (c2 := c2) hb)
  have HI : Hid (∀ w, Calls Tryd.prog 37 #[.string p.name] w fun e' w' => e' = .returned (.bool (nam p.name)) ∧ Below w.heap.size w w') := fun w => L.oname_any p.name w
  have HPE := Lib.hid (fun w' h => oparamsError_any p.params a1 c1 hok.params w' hc1 h)
  have HN := Lib.hid (fun w' h => onodes_any p a1 a2 c1 c2 hok.body hok.bodyLen hsz w' h)
  have HWK := Lib.hid (fun (B : Nat) (hB : (w.alloc (prO p a1 c1 a2 c2)).heap.size ≤ B) (z : Int) (w' : World) (hJ : Jb B (fun z => .int .i64 z) 0 (fun _ => False) z w') (hb : Below (w.alloc (prO p a1 c1 a2 c2)).heap.size (w.alloc (prO p a1 c1 a2 c2)) w') => owalkV_any (visV (w0 := w.alloc (prO p a1 c1 a2 c2)) hB) p a1 c1 a2 c2 hok.body hok.bodyLen (by omega) (hK.below hw).body z w' hJ hb)
  have HK := Lib.hid hK
  have HW := Lib.hid hw
  have hv := val_cases p
  have hfr := first_run p
  generalize valE p = R at hv ⊢
  have HV := Lib.hid hv
  have HFR := Lib.hid hfr
  clear hv hfr hw hK hok hsz hc1
  unfold prO at HBL HW HWK
  unfold prV at *
  generalize nam p.name = nm at HI HV
  cases nm
  · have HR : Hid (R = 7) := by show _ = _; rw [HV.out, if_pos rfl]
    go_enter Tryd.func36, Tryd.ntmps36
    go_wp2_with fail
    refine (HI.out _).mono ?_; rintro e w2 ⟨rfl, hb2⟩
    have HB2 := Lib.hid (below_2 HW.out hb2)
    clear hb2
    go_wp2_with fail
    go_ret
    exact ⟨ret_int HR.out.symm, HB2.out⟩
  · go_enter Tryd.func36, Tryd.ntmps36
    go_wp2_with fail
    refine (HI.out _).mono ?_; rintro e w2 ⟨rfl, hb2⟩
    have HBX := Lib.hid hb2
    clear hb2
    obtain ⟨j0, j1, j2⟩ := HBL.out _ HBX.out
    go_wp2_with fail
    refine (HPE.out _ (HK.out.below (below_2 HW.out HBX.out)).params).mono ?_; rintro e w3 ⟨rfl, hb3⟩
    have HBX := Lib.hid (below_2 HBX.out hb3)
    clear hb3 j0 j1 j2
    by_cases hp : parE p.params = 0
    · rw [hp]
      obtain ⟨j0, j1, j2⟩ := HBL.out _ HBX.out
      have hB := HBX.out.size
      have hC := HWK.out w3.heap.size hB 0 (w3.alloc (.cells #[.int .i64 0] 32)) ⟨cell1_at rfl, fun h => h⟩ (HBX.out.trans ((below_box w3 _).mono hB))
      rw [HFR.out] at hC
      have HC := Lib.hid hC
      have HBA := Lib.hid (below_2 HBX.out (below_box w3 (.cells #[.int .i64 0] 32)))
      obtain ⟨i0, i1, i2⟩ := HBL.out _ HBA.out
      have HR2 : Hid (R = if firstE (walk p) ≠ 0 then firstE (walk p) else if 400 < nodes p then 2 else 0) := by show _ = _; rw [HV.out, if_neg (by decide), if_neg (fun h => h hp)]
      clear hC hp hB j0 j1 j2
      generalize firstE (walk p) = f at HC HR2
      go_wp2_with fail
      refine HC.out.mono ?_; rintro e w4 ⟨rfl, ⟨_, hj, _⟩, hb4⟩
      have n0 := hj.cell
      have HJ4 := Lib.hid hj
      have HB4 := Lib.hid (HBA.out.trans hb4)
      clear hj hb4 i0 i1 i2
      obtain ⟨i0, i1, i2⟩ := HBL.out _ HB4.out
      by_cases hf : f = 0
      · have bf : (f == 0) = true := beq_iff_eq.2 hf
        have HR3 : Hid (R = if 400 < nodes p then 2 else 0) := by show _ = _; rw [HR2.out, if_neg (fun h => h hf)]
        have HF : Hid (f = 0) := hf
        clear hf
        go_wp2_with fail
        refine (HN.out _ (HK.out.below (below_2 HW.out HB4.out)).body).mono ?_; rintro e w5 ⟨rfl, hb5⟩
        have n5 := (HJ4.out.later hb5).cell
        have HB5 := Lib.hid (below_2 HW.out (below_2 HB4.out hb5))
        clear hb5
        by_cases h4 : 400 < nodes p
        · have b4 : decide (400 < (nodes p : Int)) = true := decide_eq_true (by omega)
          have HR : Hid (R = 2) := by show _ = _; rw [HR3.out, if_pos h4]
          clear h4
          go_wp2_with fail
          go_ret
          exact ⟨ret_int HR.out.symm, HB5.out⟩
        · have b4 : decide (400 < (nodes p : Int)) = false := decide_eq_false (by omega)
          have HR : Hid (R = f) := by show _ = _; rw [HR3.out, if_neg h4, HF.out]
          clear h4
          go_wp2_with fail
          go_ret
          exact ⟨ret_int HR.out.symm, HB5.out⟩
      · have bf : (f == 0) = false := beq_eq_false_iff_ne.2 hf
        have HR : Hid (R = f) := by show _ = _; rw [HR2.out, if_pos hf]
        have HB5 := Lib.hid (below_2 HW.out HB4.out)
        clear hf
        go_wp2_with fail
        go_ret
        exact ⟨ret_int HR.out.symm, HB5.out⟩
    · have bp : (parE p.params != 0) = true := bne_iff_ne.2 hp
      have HR : Hid (R = parE p.params) := by show _ = _; rw [HV.out, if_neg (by decide), if_pos hp]
      have HB5 := Lib.hid (below_2 (below_2 HW.out HBX.out) (below_box w3 (.cells #[.int .i64 (parE p.params)] 32)))
      clear hp
      go_wp2_with fail
      go_ret
      exact ⟨ret_int HR.out.symm, HB5.out⟩
end Go.Proofs.YtkjefigebdbkaaaDoor.A
namespace Go.Proofs.YtkjefigebdbkaaaDoor.A
open Go.RowKit
open L (Str isName prt size_len below_2 below_box ret_bool ret_int eql_eq bytes_eq)

/-- a statement as a value: its cells -/
def stC (s : St) (a1 : Option Addr) (c1 : Nat) (a2 : Option Addr) (c2 : Nat) (a3 : Option Addr) (c3 : Nat) (a4 : Option Addr) (c4 : Nat) : Value :=
  .agg #[.int .i64 s.op, .string s.name, .int .i64 s.mx, .int .i64 s.a.op, .int .i64 s.a.n, .string s.a.s, .slice a1 s.a.args.length c1, .int .i64 s.b.op, .int .i64 s.b.n, .string s.b.s, .slice a2 s.b.args.length c2, .slice a3 s.body.length c3, .slice a4 s.els.length c4]
end Go.Proofs.YtkjefigebdbkaaaDoor.A
namespace Go.Proofs.YtkjefigebdbkaaaDoor.A
open Go.RowKit
open L (Str isName prt size_len below_2 below_box ret_bool ret_int eql_eq bytes_eq)

/-- what stmt's walk is given: the parts' contracts, and the tests -/
structure StW (s : St) (a1 : Option Addr) (c1 : Nat) (a2 : Option Addr) (c2 : Nat) (a3 a4 : Option Addr) (va vb : Int) (NM v1 v3 v4 : Bool) : Prop where
  aa : ∀ w, Calls Tryd.prog 93 #[.agg #[.int .i64 s.a.op, .int .i64 s.a.n, .string s.a.s, .slice a1 s.a.args.length c1]] w fun e' w' => e' = .returned (.bool v3) ∧ Below w.heap.size w w'
  ab : ∀ w, Calls Tryd.prog 93 #[.agg #[.int .i64 s.b.op, .int .i64 s.b.n, .string s.b.s, .slice a2 s.b.args.length c2]] w fun e' w' => e' = .returned (.bool v4) ∧ Below w.heap.size w w'
  nam : ∀ w, Calls Tryd.prog 87 #[.string s.name] w fun e' w' => e' = .returned (.bool NM) ∧ Below w.heap.size w w'
  va : ∀ w, StKids w s a1 a2 a3 a4 → Calls Tryd.prog 59 #[.agg #[.int .i64 s.a.op, .int .i64 s.a.n, .string s.a.s, .slice a1 s.a.args.length c1]] w fun e' w' => e' = .returned (.int .i64 va) ∧ Below w.heap.size w w'
  vb : ∀ w, StKids w s a1 a2 a3 a4 → Calls Tryd.prog 59 #[.agg #[.int .i64 s.b.op, .int .i64 s.b.n, .string s.b.s, .slice a2 s.b.args.length c2]] w fun e' w' => e' = .returned (.int .i64 vb) ∧ Below w.heap.size w w'
  name : (s.name.toList == []) = v1
  name2 : s.name.toList.isEmpty = v1
end Go.Proofs.YtkjefigebdbkaaaDoor.A
namespace Go.Proofs.YtkjefigebdbkaaaDoor.A
open Go.RowKit
open L (Str isName prt size_len below_2 below_box ret_bool ret_int eql_eq bytes_eq)

set_option maxHeartbeats 4000000 in
set_option maxRecDepth 100000 in
theorem visO {w0 : World} {B C : Nat} {x : ByteArray} (hB : w0.heap.size ≤ B) (hx : w0.cell? ⟨C, 0, none⟩ = some (.string x)) : VisO ⟨B, 0, none⟩ ⟨C, 0, none⟩ (gO x) w0 (Jb B (fun b => .bool b)) := by
  refine ⟨fun n X b u ps pe w _ hX hJ hb0 hat _ => ?_, Jb.keep, Jb.wide, Jb.narrow⟩
  have hw := below_box w (.cells #[.pointer ps, .pointer pe, .int .i64 (u.d : Int)] 111)
  obtain ⟨n1, n2, n3⟩ := hJ.1.later hw
  have c2 := ((hb0.trans (hw.mono hb0.size)).cell (block_lt_of_cell hx)).trans hx
  have HG : Hid (gO x b u = ((b || saysU x u), !(b || saysU x u))) := rfl
  have HSt := Lib.hid (fun b2 => Jb.store (m := n + 1) (s2 := b2) hX hB hJ (below_2 hw (L.below_drew _)) hb0.size)
  have HSm := Lib.hid (Jb.same (m := n + 1) hX hJ hw hb0.size)
  rw [HG.out]
  cases u with
  | st s d =>
    obtain ⟨bk, i, rfl, rfl, hat⟩ := hat
    simp only [U.d] at *
    obtain ⟨a1, c1, a2', c2', a3, c3, a4, c4, hcc, _⟩ := (hat.below hb0).open
    have k1 := (hcc.below hw).k1
    have hsay : saysU x (.st s d) = decide (s.name = x) := rfl
    rw [hsay, ← bytes_dec]
    obtain ⟨v, hv⟩ : ∃ v, (s.name.toList == x.toList) = v := ⟨_, rfl⟩
    rw [hv]
    unfold nodeV
    clear hw hJ hb0 hX hat hcc hsay HG
    cases b <;> cases v
    all_goals
      go_enter Tryd.func74, Tryd.ntmps74
      go_wp2_with fail
      go_region
      all_goals
        go_wp2_with fail
        go_ret
        exact ⟨rfl, HSt.out _⟩
  | ex e d =>
    obtain ⟨bk, i, rfl, rfl, hat⟩ := hat
    simp only [U.d] at *
    obtain ⟨a, c, hf, _⟩ := (hat.below hb0).four
    obtain ⟨k0, _, k2, _⟩ := hf.below hw
    have hsay : saysU x (.ex e d) = (decide (e.op = 3) && decide (e.s = x)) := rfl
    rw [hsay, ← bytes_dec, ← Bool.beq_eq_decide_eq]
    obtain ⟨v, hv⟩ : ∃ v, (e.s.toList == x.toList) = v := ⟨_, rfl⟩
    obtain ⟨o, ho⟩ : ∃ v, (e.op == 3) = v := ⟨_, rfl⟩
    rw [hv, ho]
    unfold nodeV
    clear hw hJ hb0 hX hat hf hsay HG
    cases o
    · rw [Bool.false_and, Bool.or_false]
      go_enter Tryd.func74, Tryd.ntmps74
      go_wp2_with fail
      go_ret
      exact ⟨rfl, HSm.out⟩
    · cases b <;> cases v
      all_goals
        go_enter Tryd.func74, Tryd.ntmps74
        go_wp2_with fail
        go_region
        all_goals
          go_wp2_with fail
          go_ret
          exact ⟨rfl, HSt.out _⟩
theorem ocontains_any (l : List ByteArray) (a : Option Addr) (c : Nat) (x : ByteArray) (hl : l.length ≤ 1000000) (w : World) (h : StrsAt w a l) :
    Calls Tryd.prog 38 #[.slice a l.length c, .string x] w fun e w' => e = .returned (.bool (l.any (fun y => decide (y = x)))) ∧ w' = w := by
  rcases h with rfl | ⟨b, i, rfl, h⟩
  · exact Tryd.slices_Contains_string_empty a c x w
  · have := Tryd.slices_Contains_string b i l.length c l x w (Nat.le_refl _) (by omega) (fun j hj => by rw [h j hj]; simp [List.getD, List.getElem?_eq_getElem hj])
    rw [List.take_length] at this
    have hv : Lib.containsS l x = l.any (fun y => decide (y = x)) := by
      rw [Bool.eq_iff_iff, Lib.containsS_iff, any_mem]
    rw [hv] at this
    exact this
theorem occurs_names (p : Pr) (x : ByteArray) : ((names p).any (fun y => decide (y = x)) || (walk p).any (V.says x)) = occurs p x := by
  unfold names occurs
  rw [List.any_append, List.any_map]
  have h : ((walk p).filterMap V.decl).any (fun y => decide (y = x)) = true → (walk p).any (V.says x) = true := by
    intro h
    obtain ⟨y, hy, hd⟩ := List.any_eq_true.1 h
    obtain ⟨v, hv, hvd⟩ := List.mem_filterMap.1 hy
    refine List.any_eq_true.2 ⟨v, hv, ?_⟩
    cases v with
    | ex e r => cases hvd
    | st s d =>
      unfold V.decl at hvd
      simp only at hvd
      split at hvd
      · cases hvd; exact hd
      · cases hvd
  show ((p.params.any (fun q => decide (q.name = x)) || _) || _) = _
  cases h1 : p.params.any (fun q => decide (q.name = x))
  · cases h2 : ((walk p).filterMap V.decl).any (fun y => decide (y = x))
    · rfl
    · rw [h h2]; rfl
  · rfl
theorem names_len (p : Pr) (hpl : p.params.length ≤ 1000) : (names p).length ≤ 2000 := by
  unfold names
  rw [List.length_append, List.length_map]
  have h1 := List.length_filterMap_le V.decl (walk p)
  have h2 : (walk p).length ≤ 401 := by unfold walk; rw [List.length_take]; omega
  omega
set_option maxHeartbeats 4000000 in
set_option maxRecDepth 100000 in
theorem ooccurs_any (p : Pr) (a1 a2 : Option Addr) (c1 c2 : Nat) (x : ByteArray) (hok : OkP p) (hsz : cB p.body ≤ 900000) (hpl : p.params.length ≤ 1000) (hps : ∀ j (h : j < p.params.length), p.params[j].name.size ≤ 281474976710656) (w : World) (hK : PrIn w p a1 a2) :
    Calls Tryd.prog 40 #[prV p a1 c1 a2 c2, .string x] w fun e' w' => e' = .returned (.bool (occurs p x)) ∧ Below w.heap.size w w' := by
  have hw := below_2 (below_box w (prO p a1 c1 a2 c2)) (below_box _ (.cells #[.string x] 9))
  have hx2 := (Bx.new w #[.string p.name, .slice a1 p.params.length c1, .slice a2 p.body.length c2] 25).below (below_box _ (.cells #[.string x] 9))
  have hx3 := Bx.new (w.alloc (prO p a1 c1 a2 c2)) #[.string x] 9
  rw [show (w.alloc (prO p a1 c1 a2 c2)).heap.size = w.heap.size + 1 by simp] at hx3
  have hn := names_len p hpl
  obtain ⟨v, hv⟩ : ∃ v, (names p).any (fun y => decide (y = x)) = v := ⟨_, rfl⟩
  have hoc := occurs_names p x
  rw [hv, ← says_run x p v] at hoc
  rw [← hoc]
  unfold prO at *
  generalize hw2 : (w.alloc (.cells #[.string p.name, .slice a1 p.params.length c1, .slice a2 p.body.length c2] 25)).alloc (.cells #[.string x] 9) = w2 at *
  have hHN := fun w' (hb : Below w2.heap.size w2 w') => onames_any p a1 a2 c1 c2 hok hsz hpl hps w' (hK.below (below_2 hw hb))
  have hCt := fun (a : Option Addr) (c : Nat) w' (h : StrsAt w' a (names p)) => ocontains_any (names p) a c x (by omega) w' h
  rw [hv] at hCt
  have c3 := hx3.cell 0
  simp at c3
  have hWK := fun (B : Nat) (hB : w2.heap.size ≤ B) (w' : World) (hJ : Jb B (fun b => .bool b) 0 (fun _ => False) v w') (hb : Below w2.heap.size w2 w') => owalkO_any (visO (w0 := w2) hB c3) p a1 c1 a2 c2 hok.body hok.bodyLen (by omega) (hK.below hw).body v w' hJ hb
  have HN := Lib.hid hHN
  have HCt := Lib.hid hCt
  have HWK := Lib.hid hWK
  have HX2 := Lib.hid hx2
  have HX3 := Lib.hid hx3
  have HW := Lib.hid hw
  have x0 := hx2.cell 0
  have x1 := hx2.cell 1
  have x2 := hx2.cell 2
  simp at x0 x1 x2
  generalize (run (gO x) v (walkU p)).1 = r at HWK ⊢
  unfold prV at *
  clear hHN hCt hWK hx2 hx3 hw hok hsz hps hK hoc hv
  go_enter Tryd.func40, Tryd.ntmps40
  go_upto_region 1 with fail
  clear hw2
  go_cut [5] from 5 to 9 (fun v5 wx => ∃ B, v5 = .pointer (some ⟨B, 0, none⟩) ∧ Cell1 B (.bool v) wx ∧ w2.heap.size ≤ B ∧ Below w2.heap.size w2 wx)
  case first =>
    have hd1 := L.below_drew w2
    have hd2 := (below_box w2 (.cells #[.bool false] 4)).drew
    have HD1 := Lib.hid hd1
    have HD2 := Lib.hid hd2
    have HN1 := Lib.hid (HN.out w2.drew hd1)
    have HN2 := Lib.hid (HN.out (w2.alloc (.cells #[.bool false] 4)).drew hd2)
    have ne0 := World.new_ne w2 _ x0
    have ne1 := World.new_ne w2 _ x1
    have ne2 := World.new_ne w2 _ x2
    have ne3 := World.new_ne w2 _ c3
    clear hd1 hd2
    go_region_held3 (fun w' => w'.cell? ⟨w.heap.size + 1, 0, none⟩ = some (.string x) ∧ w'.cell? ⟨w.heap.size, 0, none⟩ = some (.string p.name) ∧ w'.cell? ⟨w.heap.size, 1, none⟩ = some (.slice a1 p.params.length c1) ∧ w'.cell? ⟨w.heap.size, 2, none⟩ = some (.slice a2 p.body.length c2)) (first | exact ⟨y3, z0, z1, z2⟩ | go_keep)
      (first
        | (go_at_call 39; (with_reducible refine HN1.out.mono ?_); rintro e' wN ⟨pn, qn, rfl, hqn, hsn, hbn⟩; have HSn := Lib.hid hsn; have HBn := Lib.hid (below_2 HD1.out hbn); have hy3 := (HX3.out.below HBn.out).cell 0; have y3 : wN.cell? ⟨w.heap.size + 1, 0, none⟩ = some (.string x) := hy3; have hz := HX2.out.below HBn.out; have z0 := hz.cell 0; have z1 := hz.cell 1; have z2 := hz.cell 2; simp at z0 z1 z2; have ma := World.new_ne wN _ z0; have mb := World.new_ne wN _ z1; have mc := World.new_ne wN _ z2; have md := World.new_ne wN _ y3; have y4 : (wN.alloc (.cells #[.bool false] 4)).cell? ⟨w.heap.size + 1, 0, none⟩ = some (.string x) := ((below_box wN _).cell (block_lt_of_cell y3)).trans y3; clear hsn hbn hy3 hz)
        | (go_at_call 39; (with_reducible refine HN2.out.mono ?_); rintro e' wN ⟨pn, qn, rfl, hqn, hsn, hbn⟩; have HSn := Lib.hid hsn; have HBn := Lib.hid (below_2 HD2.out hbn); have HBf := Lib.hid hbn; have hy3 := (HX3.out.below HBn.out).cell 0; have y3 : wN.cell? ⟨w.heap.size + 1, 0, none⟩ = some (.string x) := hy3; have hcell := ((cell1_at (v := .bool false) (t := 4) (w := w2) rfl).later (L.below_drew _)).later HBf.out; obtain ⟨b1, b2, b3⟩ := hcell; have hz := HX2.out.below HBn.out; have z0 := hz.cell 0; have z1 := hz.cell 1; have z2 := hz.cell 2; simp at z0 z1 z2; clear hsn hbn hy3 hz)
        | (go_at_call 38; refine (HCt.out _ _ _ HSn.out).mono ?_; rintro e' wC ⟨rfl, hwc⟩; subst hwc)
        | (go_at_call 38; refine (HCt.out _ _ _ (HSn.out.below (below_box _ _))).mono ?_; rintro e' wC ⟨rfl, hwc⟩; subst hwc))
    all_goals
      go_wp2_with fail
      go_meet
      first
        | exact ⟨_, rfl, cell1_at rfl, HBn.out.size, below_2 HBn.out (below_box _ _)⟩
        | exact ⟨_, rfl, (⟨b1, b2, b3⟩ : Cell1 _ (.bool false) _).set, Nat.le_refl _, HBn.out.setCell (Nat.le_refl _) _⟩
  case rest =>
    obtain ⟨B, rfl, hC, hB, hb⟩ := hcut
    have hX := HX2.out.below hb
    have z0 := hX.cell 0
    have z1 := hX.cell 1
    have z2 := hX.cell 2
    simp at z0 z1 z2
    have HC := Lib.hid (HWK.out B hB wc ⟨hC, fun h => h⟩ hb)
    have HB := Lib.hid (below_2 HW.out hb)
    have HZ := Lib.hid HW.out.size
    clear hC hB hb hX x0 x1 x2 c3
    go_wp2_with fail
    refine HC.out.mono ?_; rintro e' w5 ⟨rfl, ⟨_, hj, _⟩, hb5⟩
    have n0 := hj.cell
    have HB5 := Lib.hid (HB.out.trans (hb5.mono HZ.out))
    clear hj hb5
    go_wp2_with fail
    go_ret
    exact ⟨rfl, HB5.out⟩
end Go.Proofs.YtkjefigebdbkaaaDoor.A
