/-
  What the program's function Validate of layer 8 returns: its contract.
  What the program's functions of layer 8 return: equalStmts, slices.EqualFunc of statements: contracts.
  What the reference of layer 8 returns: Validate: a contract (over stmt's).
  What the reference of layer 8 returns: stmt: what its walks share.
-/
import Derived.Test.YtkjefigebdbkaaaDoorN11
import Derived.Test.YtkjefigebdbkaaaDoorN10
import Derived.Test.YtkjefigebdbkaaaDoorN06
import Derived.Test.YtkjefigebdbkaaaDoorN09
import Derived.Deep.Cut
import Derived.Deep.RegionLaw
namespace Go.Proofs.YtkjefigebdbkaaaDoor.A
open Go.RowKit
open L (Str isName prt size_len below_2 below_box ret_bool ret_int eql_eq bytes_eq)

set_option maxHeartbeats 2000000 in
set_option maxRecDepth 100000 in
theorem visV {w0 : World} {B : Nat} (hB : w0.heap.size ≤ B) : VisV ⟨B, 0, none⟩ gV w0 (Jb B (fun z => .int .i64 z)) := by
  refine ⟨fun n X z u ps pe w _ hX hJ hb0 hat hok => ?_, Jb.keep, Jb.wide, Jb.narrow⟩
  have hw := below_box w (.cells #[.pointer ps, .pointer pe, .int .i64 (u.d : Int)] 111)
  cases u with
  | st s d =>
    obtain ⟨b, i, rfl, rfl, hat⟩ := hat
    simp only [U.d] at *
    have hs : StAt (w.alloc (.cells #[.pointer (some ⟨b, i, none⟩), .pointer none, .int .i64 (d : Int)] 111)) s b i := (hat.below hb0).below hw
    have hd : d ≤ 1000000 := by have := hok.2; omega
    have hcs : cS s ≤ 1000000 := by have := hok.2; omega
    have HC := Lib.hid (ostmtError_any s b i d hd hok.1 hcs _ hs)
    have HP : Hid (∀ w2, Below (w.alloc (.cells #[.pointer (some ⟨b, i, none⟩), .pointer none, .int .i64 (d : Int)] 111)).heap.size (w.alloc (.cells #[.pointer (some ⟨b, i, none⟩), .pointer none, .int .i64 (d : Int)] 111)) w2 → ∀ z2 : Int,
      Jb B (fun z => .int .i64 z) (n + 1) X z2 (w2.setCell ⟨B, 0, none⟩ (.int .i64 z2)) ∧ Below w0.heap.size w (w2.setCell ⟨B, 0, none⟩ (.int .i64 z2)) ∧ ∀ k, X k → (w2.setCell ⟨B, 0, none⟩ (.int .i64 z2)).heap[k]? = w.heap[k]?) := fun w2 hb z2 => Jb.store (m := n + 1) (s2 := z2) hX hB hJ (below_2 hw hb) hb0.size
    have HJ1 := Lib.hid (hJ.1.later hw)
    have HV : Hid (gV z (.st s d) = (stE s d, (stE s d == 0))) := by
      show (stE s d, decide (stE s d = 0)) = _
      rw [Bool.beq_eq_decide_eq]
    rw [HV.out]
    generalize stE s d = x at HC ⊢
    unfold nodeV
    clear hw hJ hb0 HV hX hok hat hs
    go_enter Tryd.func66, Tryd.ntmps66
    go_wp2_with fail
    refine HC.out.mono ?_; rintro e' w2 ⟨rfl, hb⟩
    obtain ⟨n1, n2, n3⟩ := HJ1.out.later hb
    have HP2 := Lib.hid (HP.out w2 hb x)
    clear hb
    go_wp2_with fail
    go_ret
    exact ⟨rfl, HP2.out⟩
  | ex e d =>
    obtain ⟨b, i, rfl, rfl, _⟩ := hat
    have HP := Lib.hid (Jb.same (m := n + 1) hX hJ hw hb0.size)
    have HV : Hid (gV z (.ex e d) = (z, (z == 0))) := by
      show (z, decide (z = 0)) = _
      rw [Bool.beq_eq_decide_eq]
    rw [HV.out]
    have n0 := hJ.1.cell
    have n2 := (hJ.1.later hw).cell
    unfold nodeV
    simp only [U.d] at *
    clear hw hJ hb0 hX hok HV
    go_enter Tryd.func66, Tryd.ntmps66
    go_wp2_with fail
    go_ret
    exact ⟨rfl, HP.out⟩
theorem val_cases (p : Pr) : valE p = if nam p.name = false then 7 else if parE p.params ≠ 0 then parE p.params else if firstE (walk p) ≠ 0 then firstE (walk p) else if 400 < nodes p then 2 else 0 := rfl
set_option maxHeartbeats 4000000 in
set_option maxRecDepth 100000 in
theorem ovalidate_any (p : Pr) (a1 a2 : Option Addr) (c1 c2 : Nat) (hok : OkP p) (hsz : cB p.body ≤ 900000) (hc1 : p.params.length ≤ c1) (w : World) (hK : PrIn w p a1 a2) :
    Calls Tryd.prog 36 #[prV p a1 c1 a2 c2] w fun e' w' => e' = .returned (.int .i64 (valE p)) ∧ Below w.heap.size w w' := by
  have hw := below_box w (prO p a1 c1 a2 c2)
  have HBL := Lib.hid (fun w' hb => proc_later (w := w) (w' := w') (p := p) (a1 := a1) (a2 := a2) (c1 := c1) (c2 := c2) hb)
  have HI : Hid (∀ w, Calls Tryd.prog 37 #[.string p.name] w fun e' w' => e' = .returned (.bool (nam p.name)) ∧ Below w.heap.size w w') := fun w => L.oname_any p.name w
  have HPE := Lib.hid (fun w' h => oparamsError_any p.params a1 c1 hok.params w' hc1 h)
  have HN := Lib.hid (fun w' h => onodes_any p a1 a2 c1 c2 hok.body hok.bodyLen hsz w' h)
  have HWK := Lib.hid (fun (B : Nat) (hB : (w.alloc (prO p a1 c1 a2 c2)).heap.size ≤ B) (z : Int) (w' : World) (hJ : Jb B (fun z => .int .i64 z) 0 (fun _ => False) z w') (hb : Below (w.alloc (prO p a1 c1 a2 c2)).heap.size (w.alloc (prO p a1 c1 a2 c2)) w') => owalkV_any (visV (w0 := w.alloc (prO p a1 c1 a2 c2)) hB) p a1 c1 a2 c2 hok.body hok.bodyLen (by omega) (hK.below hw).body z w' hJ hb)
  have HK := Lib.hid hK
  have HW := Lib.hid hw
  have hv := val_cases p
  have hfr := first_run p
  generalize valE p = R at hv ⊢
  have HV := Lib.hid hv
  have HFR := Lib.hid hfr
  clear hv hfr hw hK hok hsz hc1
  unfold prO at HBL HW HWK
  unfold prV at *
  generalize nam p.name = nm at HI HV
  cases nm
  · have HR : Hid (R = 7) := by show _ = _; rw [HV.out, if_pos rfl]
    go_enter Tryd.func36, Tryd.ntmps36
    go_wp2_with fail
    refine (HI.out _).mono ?_; rintro e w2 ⟨rfl, hb2⟩
    have HB2 := Lib.hid (below_2 HW.out hb2)
    clear hb2
    go_wp2_with fail
    go_ret
    exact ⟨ret_int HR.out.symm, HB2.out⟩
  · go_enter Tryd.func36, Tryd.ntmps36
    go_wp2_with fail
    refine (HI.out _).mono ?_; rintro e w2 ⟨rfl, hb2⟩
    have HBX := Lib.hid hb2
    clear hb2
    obtain ⟨j0, j1, j2⟩ := HBL.out _ HBX.out
    go_wp2_with fail
    refine (HPE.out _ (HK.out.below (below_2 HW.out HBX.out)).params).mono ?_; rintro e w3 ⟨rfl, hb3⟩
    have HBX := Lib.hid (below_2 HBX.out hb3)
    clear hb3 j0 j1 j2
    by_cases hp : parE p.params = 0
    · rw [hp]
      obtain ⟨j0, j1, j2⟩ := HBL.out _ HBX.out
      have hB := HBX.out.size
      have hC := HWK.out w3.heap.size hB 0 (w3.alloc (.cells #[.int .i64 0] 32)) ⟨cell1_at rfl, fun h => h⟩ (HBX.out.trans ((below_box w3 _).mono hB))
      rw [HFR.out] at hC
      have HC := Lib.hid hC
      have HBA := Lib.hid (below_2 HBX.out (below_box w3 (.cells #[.int .i64 0] 32)))
      obtain ⟨i0, i1, i2⟩ := HBL.out _ HBA.out
      have HR2 : Hid (R = if firstE (walk p) ≠ 0 then firstE (walk p) else if 400 < nodes p then 2 else 0) := by show _ = _; rw [HV.out, if_neg (by decide), if_neg (fun h => h hp)]
      clear hC hp hB j0 j1 j2
      generalize firstE (walk p) = f at HC HR2
      go_wp2_with fail
      refine HC.out.mono ?_; rintro e w4 ⟨rfl, ⟨_, hj, _⟩, hb4⟩
      have n0 := hj.cell
      have HJ4 := Lib.hid hj
      have HB4 := Lib.hid (HBA.out.trans hb4)
      clear hj hb4 i0 i1 i2
      obtain ⟨i0, i1, i2⟩ := HBL.out _ HB4.out
      by_cases hf : f = 0
      · have bf : (f == 0) = true := beq_iff_eq.2 hf
        have HR3 : Hid (R = if 400 < nodes p then 2 else 0) := by show _ = _; rw [HR2.out, if_neg (fun h => h hf)]
        have HF : Hid (f = 0) := hf
        clear hf
        go_wp2_with fail
        refine (HN.out _ (HK.out.below (below_2 HW.out HB4.out)).body).mono ?_; rintro e w5 ⟨rfl, hb5⟩
        have n5 := (HJ4.out.later hb5).cell
        have HB5 := Lib.hid (below_2 HW.out (below_2 HB4.out hb5))
        clear hb5
        by_cases h4 : 400 < nodes p
        · have b4 : decide (400 < (nodes p : Int)) = true := decide_eq_true (by omega)
          have HR : Hid (R = 2) := by show _ = _; rw [HR3.out, if_pos h4]
          clear h4
          go_wp2_with fail
          go_ret
          exact ⟨ret_int HR.out.symm, HB5.out⟩
        · have b4 : decide (400 < (nodes p : Int)) = false := decide_eq_false (by omega)
          have HR : Hid (R = f) := by show _ = _; rw [HR3.out, if_neg h4, HF.out]
          clear h4
          go_wp2_with fail
          go_ret
          exact ⟨ret_int HR.out.symm, HB5.out⟩
      · have bf : (f == 0) = false := beq_eq_false_iff_ne.2 hf
        have HR : Hid (R = f) := by show _ = _; rw [HR2.out, if_pos hf]
        have HB5 := Lib.hid (below_2 HW.out HB4.out)
        clear hf
        go_wp2_with fail
        go_ret
        exact ⟨ret_int HR.out.symm, HB5.out⟩
    · have bp : (parE p.params != 0) = true := bne_iff_ne.2 hp
      have HR : Hid (R = parE p.params) := by show _ = _; rw [HV.out, if_neg (by decide), if_pos hp]
      have HB5 := Lib.hid (below_2 (below_2 HW.out HBX.out) (below_box w3 (.cells #[.int .i64 (parE p.params)] 32)))
      clear hp
      go_wp2_with fail
      go_ret
      exact ⟨ret_int HR.out.symm, HB5.out⟩
end Go.Proofs.YtkjefigebdbkaaaDoor.A
namespace Go.Proofs.YtkjefigebdbkaaaDoor.A
open Go.RowKit
open L (Str isName prt size_len below_2 below_box ret_bool ret_int eql_eq bytes_eq)

/-- a statement as a value: its cells -/
def stC (s : St) (a1 : Option Addr) (c1 : Nat) (a2 : Option Addr) (c2 : Nat) (a3 : Option Addr) (c3 : Nat) (a4 : Option Addr) (c4 : Nat) : Value :=
  .agg #[.int .i64 s.op, .string s.name, .int .i64 s.mx, .int .i64 s.a.op, .int .i64 s.a.n, .string s.a.s, .slice a1 s.a.args.length c1, .int .i64 s.b.op, .int .i64 s.b.n, .string s.b.s, .slice a2 s.b.args.length c2, .slice a3 s.body.length c3, .slice a4 s.els.length c4]
end Go.Proofs.YtkjefigebdbkaaaDoor.A
namespace Go.Proofs.YtkjefigebdbkaaaDoor.A
open Go.RowKit
open L (Str isName prt size_len below_2 below_box ret_bool ret_int eql_eq bytes_eq isName_any)

/-- what the reference's stmt returns -/
def RStmt : Prop := ∀ (s : St) (a1 : Option Addr) (c1 : Nat) (a2 : Option Addr) (c2 : Nat) (a3 : Option Addr) (c3 : Nat) (a4 : Option Addr) (c4 : Nat) (d : Nat), d ≤ 1000000 → okS s → ∀ w0 : World, StKids w0 s a1 a2 a3 a4 →
    Calls Tryd.prog 89 #[stC s a1 c1 a2 c2 a3 c3 a4 c4, .int .i64 (d : Int)] w0 fun e' w' => e' = .returned (.int .i64 (stE s d)) ∧ Below w0.heap.size w0 w'
def VOk (n : Nat) : V → Prop
  | .st s d => okS s ∧ d ≤ n
  | .ex _ _ => True
mutual
theorem preE_ok (n : Nat) : ∀ (e : Ex) (r : Bool), ∀ v ∈ preE e r, VOk n v
  | .mk o m s l, r, v, h => by
    rw [preE] at h
    rcases List.mem_cons.1 h with rfl | h
    · trivial
    · exact preEs_ok n l v h
theorem preEs_ok (n : Nat) : ∀ (l : List Ex), ∀ v ∈ preEs l, VOk n v
  | [], v, h => by rw [preEs] at h; cases h
  | e :: r, v, h => by
    rw [preEs] at h
    rcases List.mem_append.1 h with h | h
    · exact preE_ok n e false v h
    · exact preEs_ok n r v h
end
theorem preR_ok (n : Nat) (e : Ex) : ∀ v ∈ preR e, VOk n v := by
  intro v h
  unfold preR at h
  split at h
  · cases h
  · exact preE_ok n e true v h
mutual
theorem preS_ok (n : Nat) : ∀ (s : St) (d : Nat), okS s → d + cS s ≤ n → ∀ v ∈ preS s d, VOk n v
  | .mk o nm mx a b bd el, d, hok, hd, v, h => by
    have hp := hok
    rw [okS] at hp
    obtain ⟨_, _, _, _, _, _, h1, _, h2⟩ := hp
    rw [cS] at hd
    rw [preS] at h
    rcases List.mem_cons.1 h with rfl | h
    · exact ⟨hok, by omega⟩
    rcases List.mem_append.1 h with h | h
    · rcases List.mem_append.1 h with h | h
      · rcases List.mem_append.1 h with h | h
        · exact preR_ok n a v h
        · exact preR_ok n b v h
      · exact preB_ok n bd (d + 1) h1 (by omega) v h
    · exact preB_ok n el (d + 1) h2 (by omega) v h
theorem preB_ok (n : Nat) : ∀ (l : List St) (d : Nat), okB l → d + cB l ≤ n → ∀ v ∈ preB l d, VOk n v
  | [], d, _, _, v, h => by rw [preB] at h; cases h
  | s :: r, d, hok, hd, v, h => by
    rw [okB] at hok
    rw [cB] at hd
    rw [preB] at h
    rcases List.mem_append.1 h with h | h
    · exact preS_ok n s d hok.1 (by omega) v h
    · exact preB_ok n r d hok.2 (by omega) v h
end
theorem walk_ok {p : Pr} (hok : okB p.body) (hs : cB p.body ≤ 900000) : ∀ v ∈ walk p, VOk 1000000 v := fun v h =>
  preB_ok 1000000 p.body 1 hok (by omega) v (List.mem_of_mem_take (by unfold walk at h; exact h))
theorem firstE_drop {l : List V} {k : Nat} (h : k < l.length) : firstE (l.drop k) = match l[k] with | .st s d => if stE s d ≠ 0 then stE s d else firstE (l.drop (k + 1)) | .ex _ _ => firstE (l.drop (k + 1)) := by
  rw [List.drop_eq_getElem_cons h]
  cases l[k] <;> rfl
set_option maxHeartbeats 8000000 in
set_option maxRecDepth 100000 in
theorem rvalidate_any (hst : RStmt) (p : Pr) (a1 a2 : Option Addr) (c1 c2 : Nat) (hok : OkP p) (hsz : cB p.body ≤ 900000) (w : World) (hK : PrIn w p a1 a2) :
    Calls Tryd.prog 54 #[prV p a1 c1 a2 c2] w fun e' w' => e' = .returned (.int .i64 (valE p)) ∧ Below w.heap.size w w' := by
  have hw := below_box w (prO p a1 c1 a2 c2)
  have HBL := Lib.hid (fun w' hb => proc_later (w := w) (w' := w') (p := p) (a1 := a1) (a2 := a2) (c1 := c1) (c2 := c2) hb)
  have HI : Hid (∀ w, Calls Tryd.prog 87 #[.string p.name] w fun e' w' => e' = .returned (.bool (nam p.name)) ∧ Below w.heap.size w w') := fun w => isName_any p.name (by have := hok.name; omega) w
  have HPE := Lib.hid (fun w' h => rparams_any p.params a1 c1 hok.params hok.each w' h)
  have HC := Lib.hid (fun w' hK => rwalk_any p a1 a2 c1 c2 hok.body hok.bodyLen w' hK)
  have HVO := Lib.hid (walk_ok hok.body hsz)
  have HST := Lib.hid hst
  have HK := Lib.hid hK
  have HW := Lib.hid hw
  have hv := val_cases p
  have hn : (walk p).length ≤ 401 := by unfold walk; rw [List.length_take]; omega
  have hnn : nodes p = (walk p).length := rfl
  rw [hnn] at hv
  generalize valE p = R at hv ⊢
  have HV := Lib.hid hv
  clear hv hw hK hok hsz hst hnn
  unfold prO at HBL HW
  unfold prV at *
  generalize nam p.name = nm at HI HV
  cases nm
  · have HR : Hid (R = 7) := by show _ = _; rw [HV.out, if_pos rfl]
    go_enter Tryd.func54, Tryd.ntmps54
    go_wp2_with fail
    refine (HI.out _).mono ?_; rintro e w2 ⟨rfl, hb2⟩
    have HB2 := Lib.hid (below_2 HW.out hb2)
    clear hb2
    go_wp2_with fail
    go_ret
    exact ⟨ret_int HR.out.symm, HB2.out⟩
  · go_enter Tryd.func54, Tryd.ntmps54
    go_wp2_with fail
    refine (HI.out _).mono ?_; rintro e w2 ⟨rfl, hb2⟩
    have HBX := Lib.hid hb2
    clear hb2
    obtain ⟨j0, j1, j2⟩ := HBL.out _ HBX.out
    go_wp2_with fail
    refine (HPE.out _ (HK.out.below (below_2 HW.out HBX.out)).params).mono ?_; rintro e w3 ⟨rfl, hb3⟩
    have HBX := Lib.hid (below_2 HBX.out hb3)
    clear hb3 j0 j1 j2
    by_cases hp : parE p.params = 0
    · have bp : (parE p.params != 0) = false := by rw [bne_eq_false_iff_eq]; exact hp
      have HR2 : Hid (R = if firstE (walk p) ≠ 0 then firstE (walk p) else if 400 < (walk p).length then 2 else 0) := by show _ = _; rw [HV.out, if_neg (by decide), if_neg (fun h => h hp)]
      obtain ⟨j0, j1, j2⟩ := HBL.out _ HBX.out
      have HC2 := Lib.hid (HC.out w3 (HK.out.below (below_2 HW.out HBX.out)).body)
      clear hp
      go_wp2_with fail
      refine HC2.out.mono ?_; rintro e w4 ⟨p3, q3, l', rfl, ho, hi, hvv, hb4⟩
      have HO := Lib.hid ho
      have HIn := Lib.hid hi
      have HWK := Lib.hid hvv
      have HB4 := Lib.hid (below_2 (below_2 HW.out HBX.out) hb4)
      have hlw : l'.length = (walk p).length := by rw [← vs_len, hvv]
      have HLW := Lib.hid hlw
      have hln : l'.length ≤ 401 := by rw [hlw]; exact hn
      have hz4 := hb4.size
      have HI4 : Hid (∀ x ∈ l', x.In w4) := fun x hx => (hi x hx).below hb4
      clear ho hi hvv hb4 hlw j0 j1 j2 bp
      go_wp2_with fail
      go_loopw [5] (fun s5 wr => ∃ k : Nat, k ≤ l'.length ∧ s5 = .int .i64 k ∧ Hid (firstE ((walk p).drop k) = firstE (walk p)) ∧ Hid (Below w4.heap.size w4 wr)) (fun s5 _ => l'.length - (intOf s5).toNat)
      case atStart => exact ⟨0, Nat.zero_le _, rfl, rfl, Below.refl _ _⟩
      case round =>
        obtain ⟨k, hk, rfl, HX, HBr⟩ := hrel
        have HBB := Lib.hid (below_2 HB4.out HBr.out)
        by_cases hlt : k < l'.length
        · obtain ⟨g3, rfl, hcell⟩ := visit_cells HO.out hlt
          have hlx : k < (walk p).length := by rw [← HLW.out]; exact hlt
          have hvk : (walk p)[k] = (l'[k]).v := by simp only [← HWK.out, vs, List.getElem_map]
          have hx := HX.out
          rw [firstE_drop hlx, hvk] at hx
          have hin := HI4.out _ (List.getElem_mem hlt)
          have hvo := HVO.out _ (List.getElem_mem hlx)
          rw [hvk] at hvo
          have hg3 : g3 < w4.heap.size := by
            have h := hcell 0 (by omega)
            cases hh : l'[k] with
            | st s d a5 c5 a6 c6 a7 c7 a8 c8 => rw [hh] at h; exact block_lt_of_cell (show w4.cell? ⟨g3, k * 20 + 0, none⟩ = some (.bool true) from h)
            | ex e r a5 c5 => rw [hh] at h; exact block_lt_of_cell (show w4.cell? ⟨g3, k * 20 + 0, none⟩ = some (.bool false) from h)
          have hcr : ∀ r, r < 20 → wr.cell? ⟨g3, k * 20 + r, none⟩ = (l'[k]).cells[r]? := fun r hr => (HBr.out.cell (by exact hg3)).trans (hcell r hr)
          generalize l'[k] = y at hcr hx hin hvo
          clear hvk hcell
          cases y with
          | ex e r a5 c5 =>
            have f0 : wr.cell? ⟨g3, k * 20, none⟩ = some (.bool false) := hcr 0 (by omega)
            have HX2 : Hid (firstE ((walk p).drop (k + 1)) = firstE (walk p)) := hx
            clear hcr hx hin hvo
            go_wp2_with fail
            go_roundw
            case rel => exact ⟨k + 1, by omega, by go_num, HX2.out, HBr.out⟩
            case measure => simp [intOf]; omega
          | st s d a5 c5 a6 c6 a7 c7 a8 c8 =>
            have f0 : wr.cell? ⟨g3, k * 20, none⟩ = some (.bool true) := hcr 0 (by omega)
            have e0 : wr.cell? ⟨g3, k * 20 + 1, none⟩ = some (.int .i64 s.op) := hcr 1 (by omega)
            have e1 : wr.cell? ⟨g3, k * 20 + 1 + 1, none⟩ = some (.string s.name) := hcr 2 (by omega)
            have e2 : wr.cell? ⟨g3, k * 20 + 1 + 2, none⟩ = some (.int .i64 s.mx) := hcr 3 (by omega)
            have e3 : wr.cell? ⟨g3, k * 20 + 1 + 3, none⟩ = some (.int .i64 s.a.op) := hcr 4 (by omega)
            have e4 : wr.cell? ⟨g3, k * 20 + 1 + 4, none⟩ = some (.int .i64 s.a.n) := hcr 5 (by omega)
            have e5 : wr.cell? ⟨g3, k * 20 + 1 + 5, none⟩ = some (.string s.a.s) := hcr 6 (by omega)
            have e6 : wr.cell? ⟨g3, k * 20 + 1 + 6, none⟩ = some (.slice a5 s.a.args.length c5) := hcr 7 (by omega)
            have e7 : wr.cell? ⟨g3, k * 20 + 1 + 7, none⟩ = some (.int .i64 s.b.op) := hcr 8 (by omega)
            have e8 : wr.cell? ⟨g3, k * 20 + 1 + 8, none⟩ = some (.int .i64 s.b.n) := hcr 9 (by omega)
            have e9 : wr.cell? ⟨g3, k * 20 + 1 + 9, none⟩ = some (.string s.b.s) := hcr 10 (by omega)
            have e10 : wr.cell? ⟨g3, k * 20 + 1 + 10, none⟩ = some (.slice a6 s.b.args.length c6) := hcr 11 (by omega)
            have e11 : wr.cell? ⟨g3, k * 20 + 1 + 11, none⟩ = some (.slice a7 s.body.length c7) := hcr 12 (by omega)
            have e12 : wr.cell? ⟨g3, k * 20 + 1 + 12, none⟩ = some (.slice a8 s.els.length c8) := hcr 13 (by omega)
            have f14 : wr.cell? ⟨g3, k * 20 + 14, none⟩ = some (.int .i64 (d : Int)) := hcr 14 (by omega)
            have hkk : StKids wr.drew s a5 a6 a7 a8 := StKids.below (StKids.below hin HBr.out) (L.below_drew wr)
            have HSC := Lib.hid (HST.out s a5 c5 a6 c6 a7 c7 a8 c8 d hvo.2 hvo.1 wr.drew hkk)
            have hxx : (if stE s d ≠ 0 then stE s d else firstE ((walk p).drop (k + 1))) = firstE (walk p) := hx
            generalize stE s d = z at HSC hxx
            unfold stC at HSC
            clear hcr hx hin hvo hkk
            by_cases hz : z = 0
            · have bz : (z != 0) = false := by rw [bne_eq_false_iff_eq]; exact hz
              rw [if_neg (fun h => h hz)] at hxx
              have HX2 := Lib.hid hxx
              clear hz hxx
              go_wp2_with fail
              go_region_law (go_simp; go_at_call 89; refine HSC.out.mono ?_; rintro e' w5 ⟨rfl, hb5⟩; have HB5 := Lib.hid (below_2 (L.below_drew _) hb5); clear hb5)
              all_goals
                go_wp2_with fail
                go_roundw
                case rel => exact ⟨k + 1, by omega, by go_num, HX2.out, below_2 HBr.out HB5.out⟩
                case measure => simp [intOf]; omega
            · have bz : (z != 0) = true := bne_iff_ne.2 hz
              rw [if_pos hz] at hxx
              have HR : Hid (R = z) := by show _ = _; rw [HR2.out, ← hxx, if_pos hz]
              clear hz hxx
              go_wp2_with fail
              go_region_law (go_simp; go_at_call 89; refine HSC.out.mono ?_; rintro e' w5 ⟨rfl, hb5⟩; have HB5 := Lib.hid (below_2 (L.below_drew _) hb5); clear hb5)
              all_goals
                go_wp2_with fail
                go_ret
                exact ⟨ret_int HR.out.symm, below_2 HBB.out HB5.out⟩
        · have hx := HX.out
          rw [List.drop_of_length_le (by have := HLW.out; omega)] at hx
          have hf : firstE (walk p) = 0 := hx.symm
          have HR3 : Hid (R = if 400 < l'.length then 2 else 0) := by show _ = _; rw [HR2.out, if_neg (fun h => h hf), HLW.out]
          clear hx hf
          by_cases h4 : 400 < l'.length
          · have b4 : decide (400 < (l'.length : Int)) = true := decide_eq_true (by omega)
            have HR : Hid (R = 2) := by show _ = _; rw [HR3.out, if_pos h4]
            clear h4
            go_wp2_with fail
            go_ret
            exact ⟨ret_int HR.out.symm, HBB.out⟩
          · have b4 : decide (400 < (l'.length : Int)) = false := decide_eq_false (by omega)
            have HR : Hid (R = 0) := by show _ = _; rw [HR3.out, if_neg h4]
            clear h4
            go_wp2_with fail
            go_ret
            exact ⟨ret_int HR.out.symm, HBB.out⟩
    · have bp : (parE p.params != 0) = true := bne_iff_ne.2 hp
      have HR : Hid (R = parE p.params) := by show _ = _; rw [HV.out, if_neg (by decide), if_pos hp]
      have HB5 := Lib.hid (below_2 HW.out HBX.out)
      clear hp
      go_wp2_with fail
      go_ret
      exact ⟨ret_int HR.out.symm, HB5.out⟩
end Go.Proofs.YtkjefigebdbkaaaDoor.A
namespace Go.Proofs.YtkjefigebdbkaaaDoor.A
open Go.RowKit
open L (Str isName prt size_len below_2 below_box ret_bool ret_int eql_eq bytes_eq isName_any)

theorem bad_bools (s : St) : badS s = (decide (s.op < 1) || decide (8 < s.op) || (!uN s.op && !decide (s.name.size = 0)) || (!uM s.op && (s.mx != 0)) || (!uA s.op && !absent s.a) || (!uB s.op && !absent s.b) || (!uD s.op && decide (0 < (s.body.length : Int))) || (!uE s.op && decide (0 < (s.els.length : Int)))) := by
  unfold badS
  rw [show (s.mx != 0) = !decide (s.mx = 0) by simp [bne, Bool.beq_eq_decide_eq], empty_len, empty_len]
/-- what stmt's walk is given: the parts' contracts, and the tests -/
structure StW (s : St) (a1 : Option Addr) (c1 : Nat) (a2 : Option Addr) (c2 : Nat) (a3 a4 : Option Addr) (va vb : Int) (NM v1 v3 v4 : Bool) : Prop where
  aa : ∀ w, Calls Tryd.prog 93 #[.agg #[.int .i64 s.a.op, .int .i64 s.a.n, .string s.a.s, .slice a1 s.a.args.length c1]] w fun e' w' => e' = .returned (.bool v3) ∧ Below w.heap.size w w'
  ab : ∀ w, Calls Tryd.prog 93 #[.agg #[.int .i64 s.b.op, .int .i64 s.b.n, .string s.b.s, .slice a2 s.b.args.length c2]] w fun e' w' => e' = .returned (.bool v4) ∧ Below w.heap.size w w'
  nam : ∀ w, Calls Tryd.prog 87 #[.string s.name] w fun e' w' => e' = .returned (.bool NM) ∧ Below w.heap.size w w'
  va : ∀ w, StKids w s a1 a2 a3 a4 → Calls Tryd.prog 59 #[.agg #[.int .i64 s.a.op, .int .i64 s.a.n, .string s.a.s, .slice a1 s.a.args.length c1]] w fun e' w' => e' = .returned (.int .i64 va) ∧ Below w.heap.size w w'
  vb : ∀ w, StKids w s a1 a2 a3 a4 → Calls Tryd.prog 59 #[.agg #[.int .i64 s.b.op, .int .i64 s.b.n, .string s.b.s, .slice a2 s.b.args.length c2]] w fun e' w' => e' = .returned (.int .i64 vb) ∧ Below w.heap.size w w'
  name : (s.name.toList == []) = v1
  name2 : s.name.toList.isEmpty = v1
theorem stW_of (s : St) (a1 : Option Addr) (c1 : Nat) (a2 : Option Addr) (c2 : Nat) (a3 a4 : Option Addr) (hok : okS s) : StW s a1 c1 a2 c2 a3 a4 (vE s.a 1) (vE s.b 1) (nam s.name) (decide (s.name.size = 0)) (absent s.a) (absent s.b) where
  aa := fun w => rabsent_any s.a a1 c1 w
  ab := fun w => rabsent_any s.b a2 c2 w
  nam := fun w => isName_any s.name (by have := (okS_open hok).name; omega) w
  va := fun w h => rvalidExpr_any s.a a1 c1 (okS_open hok).a w h.a
  vb := fun w h => rvalidExpr_any s.b a2 c2 (okS_open hok).b w h.b
  name := nil_of
  name2 := empty_of
end Go.Proofs.YtkjefigebdbkaaaDoor.A
