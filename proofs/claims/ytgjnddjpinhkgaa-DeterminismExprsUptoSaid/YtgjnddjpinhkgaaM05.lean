/-
  What the reference of layer 8 returns: countExpr, SmallExpr, EqualExpr: contracts by induction on the tree.
  What the reference of layer 8 returns: EqualExpr: its contract, by induction on the tree.
  What the reference of layer 8 returns: countBody, Small: contracts.
  What the reference of layer 8 returns: walkBody, Walk: contracts.
  What the program's functions of layer 8 return: isAbsent, isMaxValid, isContents, exprError: contracts.
  What the program's function exprError of layer 8 returns: its contract.
-/
import Derived.Test.YtgjnddjpinhkgaaM04
import Derived.Test.YtgjnddjpinhkgaaM03
import Derived.Test.YtgjnddjpinhkgaaM02
namespace Go.Proofs.Ytgjnddjpinhkgaa.A
open Go.RowKit
open L (Str isName prt size_len below_2 below_box ret_bool ret_int eql_eq bytes_eq)

/-- a number counted up to a bound: exact up to it, beyond it if there are more -/
structure Cnt (x : Nat) (m r : Int) : Prop where
  pos : 0 ≤ r
  le : r ≤ x
  eq : (x : Int) ≤ m → r = x
  gt : m < x → m < r
  top : r ≤ max m 0 + 100000000000000
end Go.Proofs.Ytgjnddjpinhkgaa.A
namespace Go.Proofs.Ytgjnddjpinhkgaa.A
open Go.RowKit
open L (Str isName prt size_len below_2 below_box ret_bool ret_int eql_eq bytes_eq)

theorem bytes_dec (a b : ByteArray) : (a.toList == b.toList) = decide (a = b) := by
  rw [eql_eq]
  exact decide_eq_decide.2 ⟨fun h => bytes_eq h, fun h => by rw [h]⟩
end Go.Proofs.Ytgjnddjpinhkgaa.A
namespace Go.Proofs.Ytgjnddjpinhkgaa.A
open Go.RowKit
open L (Str isName prt size_len below_2 below_box ret_bool ret_int eql_eq bytes_eq)

/-- a number counted up to a bound, whatever lies beyond -/
structure Core (x : Nat) (m r : Int) : Prop where
  pos : 0 ≤ r
  le : r ≤ x
  eq : (x : Int) ≤ m → r = x
  gt : m < x → m < r
theorem Cnt.core {x : Nat} {m r : Int} (h : Cnt x m r) : Core x m r := ⟨h.pos, h.le, h.eq, h.gt⟩
theorem Core.add {x y : Nat} {m n r : Int} (h : Core x m n) (h2 : Core y (m - n) r) : Core (x + y) m (n + r) := by
  obtain ⟨a1, a2, a3, a4⟩ := h
  obtain ⟨b1, b2, b3, b4⟩ := h2
  refine ⟨by omega, by omega, fun h => ?_, fun h => ?_⟩
  · have := a3 (by omega); have := b3 (by omega); omega
  · by_cases hx : (x : Int) ≤ m
    · have := a3 hx; have := b4 (by omega); omega
    · have := a4 (by omega); omega
theorem cS_parts (s : St) : cS s = 1 + s.name.size / 64 + cE s.a + cE s.b + cB s.body + cB s.els := by
  obtain ⟨o, nm, mx, a, b, bd, el⟩ := s
  rw [cS]; rfl
/-- what countBody's result is -/
structure CntB (x : Nat) (m r : Int) : Prop where
  core : Core x m r
  top : r ≤ max m 0 + 300000000000000
  none : m < 0 → r = 0
end Go.Proofs.Ytgjnddjpinhkgaa.A
namespace Go.Proofs.Ytgjnddjpinhkgaa.A
open Go.RowKit
open L (Str isName prt size_len below_2 below_box ret_bool ret_int)

namespace Cur
variable {w0 W wr : World} {v0 v : Value} {l : List VT} {X : List V}
end Cur
structure Four (w : World) (e : Ex) (b i : Nat) (a : Option Addr) (c : Nat) : Prop where
  k0 : w.cell? ⟨b, i, none⟩ = some (.int .i64 e.op)
  k1 : w.cell? ⟨b, i + 1, none⟩ = some (.int .i64 e.n)
  k2 : w.cell? ⟨b, i + 2, none⟩ = some (.string e.s)
  k3 : w.cell? ⟨b, i + 3, none⟩ = some (.slice a e.args.length c)
theorem StCells.fourA {w : World} {s : St} {b i : Nat} {a1 a2 a3 a4 : Option Addr} {c1 c2 c3 c4 : Nat} (h : StCells w s b i a1 c1 a2 c2 a3 c3 a4 c4) : Four w s.a b (i + 3) a1 c1 := ⟨h.k3, h.k4, h.k5, h.k6⟩
theorem StCells.fourB {w : World} {s : St} {b i : Nat} {a1 a2 a3 a4 : Option Addr} {c1 c2 c3 c4 : Nat} (h : StCells w s b i a1 c1 a2 c2 a3 c3 a4 c4) : Four w s.b b (i + 7) a2 c2 := ⟨h.k7, h.k8, h.k9, h.k10⟩
end Go.Proofs.Ytgjnddjpinhkgaa.A
namespace Go.Proofs.Ytgjnddjpinhkgaa.A
open Go.RowKit
open L (Str isName prt size_len below_2 below_box ret_bool ret_int eql_eq bytes_eq qt qt_long qt_bad qt_ok pairS)

theorem Four.below {w w' : World} {e : Ex} {b i : Nat} {a : Option Addr} {c : Nat} (h : Four w e b i a c) (hb : Below w.heap.size w w') : Four w' e b i a c := by
  have hlt : b < w.heap.size := block_lt_of_cell h.k0
  exact ⟨(hb.cell hlt).trans h.k0, (hb.cell hlt).trans h.k1, (hb.cell hlt).trans h.k2, (hb.cell hlt).trans h.k3⟩
theorem ExAt.four {w : World} {e : Ex} {b i : Nat} (h : ExAt w e b i) : ∃ a c, Four w e b i a c ∧ Kids w a e.args := by
  obtain ⟨d0, d1, d2, a, c, d3, hk⟩ := h.open
  exact ⟨a, c, ⟨d0, d1, d2, d3⟩, hk⟩
set_option maxHeartbeats 2000000 in
set_option maxRecDepth 100000 in
theorem oabsent_any (e : Ex) (b i : Nat) (a : Option Addr) (c : Nat) (w : World) (h : Four w e b i a c) : Calls Try.prog 47 #[.pointer (some ⟨b, i, none⟩)] w fun e' w' => e' = .returned (.bool (absent e)) ∧ w' = w := by
  obtain ⟨k0, k1, k2, k3⟩ := h
  have hv : absent e = ((e.op == 0) && (e.n == 0) && (e.s.toList == []) && ((e.args.length : Int) == 0)) := by
    unfold absent
    rw [nil_of, Bool.beq_eq_decide_eq, Bool.beq_eq_decide_eq, Bool.beq_eq_decide_eq]
    congr 1
    cases e.args with
    | nil => rfl
    | cons x l => rw [decide_eq_false (by simp; omega)]; rfl
  have he : e.s.toList.isEmpty = (e.s.toList == []) := by cases e.s.toList <;> rfl
  rw [hv]
  clear hv
  generalize (e.s.toList == []) = b3 at he ⊢
  obtain ⟨b1, h1⟩ : ∃ b, (e.op == 0) = b := ⟨_, rfl⟩
  obtain ⟨b2, h2⟩ : ∃ b, (e.n == 0) = b := ⟨_, rfl⟩
  obtain ⟨b4, h4⟩ : ∃ b, ((e.args.length : Int) == 0) = b := ⟨_, rfl⟩
  rw [h1, h2, h4]
  cases b1 <;> cases b2 <;> cases b3 <;> cases b4
  all_goals
    go_enter Try.func47, Try.ntmps47
    go_wp2_with fail
    go_ret
    exact ⟨rfl, rfl⟩
theorem ocontents_any (s : ByteArray) (w : World) : Calls Try.prog 52 #[.string s] w fun e w' => e = .returned (.bool (plain s)) ∧ Below w.heap.size w w' := by
  have HC := Lib.hid (L.oquote_any s w)
  have HV : Hid (((qt s.data.toList).2 == 0) = plain s) := by
    show _ = _
    unfold plain
    by_cases h : 64 < s.size
    · rw [qt_long h, decide_eq_false (by omega)]; rfl
    · rw [decide_eq_true (by omega), Bool.true_and]
      cases h2 : s.data.toList.all prt
      · rw [qt_bad h h2]; rfl
      · rw [qt_ok h h2]; rfl
  obtain ⟨⟨q, x⟩, hq⟩ : ∃ r, qt s.data.toList = r := ⟨_, rfl⟩
  unfold pairS at HC
  rw [hq] at HC HV
  simp only at HC HV
  clear hq
  generalize plain s = P at HV ⊢
  go_enter Try.func52, Try.ntmps52
  go_wp2_with fail
  refine HC.out.mono ?_; rintro e w1 ⟨rfl, hb⟩
  go_wp2_with fail
  go_ret
  exact ⟨ret_bool HV.out, hb⟩
set_option maxHeartbeats 4000000 in
set_option maxRecDepth 100000 in
theorem omax_any (s : St) (b i : Nat) (w : World) (k0 : w.cell? ⟨b, i, none⟩ = some (.int .i64 s.op)) (k2 : w.cell? ⟨b, i + 2, none⟩ = some (.int .i64 s.mx)) :
    Calls Try.prog 39 #[.pointer (some ⟨b, i, none⟩)] w fun e' w' => e' = .returned (.bool (!badM s)) ∧ w' = w := by
  obtain ⟨b6, h6⟩ : ∃ b, (s.op == 6) = b := ⟨_, rfl⟩
  obtain ⟨b8, h8⟩ : ∃ b, (s.op == 8) = b := ⟨_, rfl⟩
  obtain ⟨c1, g1⟩ : ∃ b, decide (1 ≤ s.mx) = b := ⟨_, rfl⟩
  obtain ⟨c2, g2⟩ : ∃ b, decide (s.mx ≤ 16) = b := ⟨_, rfl⟩
  obtain ⟨c3, g3⟩ : ∃ b, decide (0 ≤ s.mx) = b := ⟨_, rfl⟩
  obtain ⟨c4, g4⟩ : ∃ b, decide (s.mx ≤ 999) = b := ⟨_, rfl⟩
  have HV : Hid ((!badM s) = if b6 = true then c1 && c2 else if b8 = true then c3 && c4 else true) := by
    show _ = _
    subst h6 h8 g1 g2 g3 g4
    unfold badM
    rw [Bool.eq_iff_iff]
    by_cases h6 : s.op = 6
    · have h8 : ¬ s.op = 8 := by omega
      simp [h6]
    · by_cases h8 : s.op = 8
      · simp [h8]
      · simp [h6, h8]
  rw [HV.out]
  clear HV
  cases b6
  · cases b8
    · go_enter Try.func39, Try.ntmps39
      go_wp2_with fail
      go_ret
      exact ⟨rfl, rfl⟩
    · cases c3 <;> cases c4
      all_goals
        go_enter Try.func39, Try.ntmps39
        go_wp2_with fail
        go_ret
        exact ⟨rfl, rfl⟩
  · cases c1 <;> cases c2
    all_goals
      go_enter Try.func39, Try.ntmps39
      go_wp2_with fail
      go_ret
      exact ⟨rfl, rfl⟩
end Go.Proofs.Ytgjnddjpinhkgaa.A
namespace Go.Proofs.Ytgjnddjpinhkgaa.A
open Go.RowKit
open L (Str isName prt size_len below_2 below_box ret_bool ret_int eql_eq bytes_eq)

theorem nodeE_bools {e : Ex} {d : Nat} : nodeE e d =
    if (decide (arity e.op < 0) || ((e.n != 0) && (e.op != 1)) || (!decide (e.s.size = 0) && !(e.op == 3) && !(e.op == 2))) = true then 1
    else if ((e.op == 3) && !nam e.s) = true then 7
    else if (decide (e.n < 0) || ((e.op == 2) && !plain e.s) || ((e.args.length : Int) != arity e.op)) = true then 1
    else if decide (12 < d) = true then 2 else 0 := by
  unfold nodeE
  simp only [Bool.or_eq_true, Bool.and_eq_true, decide_eq_true_eq, bne_iff_ne, beq_iff_eq, Bool.not_eq_true', beq_eq_false_iff_ne, decide_eq_false_iff_not]
  congr 1
  · exact propext ⟨fun h => by omega, fun h => by omega⟩
  · congr 1
    congr 1
    rw [or_assoc]
theorem below_dn (w : World) (n : Nat) : Below w.heap.size w (w.drewN n) := ⟨rfl, rfl, rfl, Nat.le_refl _, fun _ _ => rfl⟩
set_option maxHeartbeats 8000000 in
set_option maxRecDepth 100000 in
theorem oexprError_any (e : Ex) (b i : Nat) (a : Option Addr) (c d : Nat) (hd : d ≤ 1000000) (w : World) (h : Four w e b i a c) :
    Calls Try.prog 50 #[.pointer (some ⟨b, i, none⟩), .int .i64 (d : Int)] w fun e' w' => e' = .returned (.int .i64 (nodeE e d)) ∧ Below w.heap.size w w' := by
  have HA := Lib.hid (fun w => oarity_any e.op w)
  have HI := Lib.hid (fun w => L.oname_any e.s w)
  have HP := Lib.hid (fun w => ocontents_any e.s w)
  have HF := Lib.hid h
  obtain ⟨k0, k1, k2, k3⟩ := h
  have hV := nodeE_bools (e := e) (d := d)
  have he2 := nil_of (s := e.s)
  have he3 := empty_of (s := e.s)
  have bd : decide (12 < (d : Int)) = decide (12 < d) := decide_eq_decide.2 (by omega)
  change Hid (∀ w, Calls Try.prog 21 #[.string e.s] w fun e' w' => e' = .returned (.bool (nam e.s)) ∧ Below w.heap.size w w') at HI
  obtain ⟨v1, h1⟩ : ∃ v, decide (arity e.op < 0) = v := ⟨_, rfl⟩
  obtain ⟨v2, h2⟩ : ∃ v, (e.n != 0) = v := ⟨_, rfl⟩
  obtain ⟨v3, h3⟩ : ∃ v, (e.op != 1) = v := ⟨_, rfl⟩
  obtain ⟨v4, h4⟩ : ∃ v, decide (e.s.size = 0) = v := ⟨_, rfl⟩
  obtain ⟨v5, h5⟩ : ∃ v, (e.op == 3) = v := ⟨_, rfl⟩
  obtain ⟨v6, h6⟩ : ∃ v, (e.op == 2) = v := ⟨_, rfl⟩
  obtain ⟨v7, h7⟩ : ∃ v, nam e.s = v := ⟨_, rfl⟩
  obtain ⟨v8, h8⟩ : ∃ v, decide (e.n < 0) = v := ⟨_, rfl⟩
  obtain ⟨v9, h9⟩ : ∃ v, plain e.s = v := ⟨_, rfl⟩
  obtain ⟨v10, h10⟩ : ∃ v, ((e.args.length : Int) != arity e.op) = v := ⟨_, rfl⟩
  obtain ⟨v11, h11⟩ : ∃ v, decide (12 < d) = v := ⟨_, rfl⟩
  rw [h4] at he2 he3
  rw [h11] at bd
  rw [h7] at HI
  rw [h9] at HP
  rw [h1, h2, h3, h4, h5, h6, h7, h8, h9, h10, h11] at hV
  have HV := Lib.hid hV
  generalize arity e.op = A at HA h1 h10
  clear hV h4 h7 h9 h11
  go_enter Try.func50, Try.ntmps50
  go_wp2_with fail
  refine (HA.out _).mono ?_; rintro e' w1 ⟨rfl, rfl⟩
  go_wp2_with fail
  go_quiet (fail)
  all_goals go_wp2_with fail
  all_goals try (first
    | (refine (HI.out _).mono ?_; rintro e' w2 ⟨rfl, hb⟩; have HB := Lib.hid (below_2 (below_dn _ _) hb); obtain ⟨j0, j1, j2, j3⟩ := HF.out.below HB.out; clear hb; go_wp2_with fail)
    | (refine (HP.out _).mono ?_; rintro e' w2 ⟨rfl, hb⟩; have HB := Lib.hid (below_2 (below_dn _ _) hb); obtain ⟨j0, j1, j2, j3⟩ := HF.out.below HB.out; clear hb; go_wp2_with fail))
  all_goals try (refine (HP.out _).mono ?_; rintro e' w3 ⟨rfl, hb⟩; have HB2 := Lib.hid (below_2 HB.out hb); obtain ⟨l0, l1, l2, l3⟩ := HF.out.below HB2.out; clear hb; go_wp2_with fail)
  all_goals (go_ret; refine ⟨ret_int ?_, ?_⟩)
  all_goals first
    | exact below_dn _ _
    | exact HB2.out
    | exact HB.out
    | (rw [HV.out]; clear HV HF HI HP HA k0 k1 k2 k3 h1 h2 h3 h5 h6 h8 h10 bd he2 he3; (try clear HB2); (try clear HB); (try clear j0 j1 j2 j3); (try clear l0 l1 l2 l3); simp_all)
end Go.Proofs.Ytgjnddjpinhkgaa.A
