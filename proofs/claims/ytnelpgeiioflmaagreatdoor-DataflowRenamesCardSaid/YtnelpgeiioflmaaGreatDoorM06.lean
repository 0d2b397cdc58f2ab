/-
  What the program's functions of layer 8 return: isAbsent, isMaxValid, isContents, exprError: contracts.
  What the program's function exprError of layer 8 returns: its contract.
  Plain mathematics of layer 8: the walk as the program makes it: nodes with their depths, visited by a step that may end the walk; what each of the program's steps leaves.
  The program's walk of layer 8: what a step does that is called for each node; walkExpr of the program, as ValidExpr calls it; ValidExpr.
  The program's walk of layer 8: walkField, walkStmts: contracts, whatever step is called for each node.
-/
import Derived.Test.YtnelpgeiioflmaaGreatDoorM04
import Derived.Test.YtnelpgeiioflmaaGreatDoorM05
import Derived.Test.YtnelpgeiioflmaaGreatDoorM03
import Derived.Test.YtnelpgeiioflmaaGreatDoorSAFacts
import Derived.Laws.BitsLemmas
namespace Go.Proofs.YtnelpgeiioflmaaGreatDoor.A
open Go.RowKit
open L (Str isName prt size_len below_2 below_box ret_bool ret_int eql_eq bytes_eq qt qt_long qt_bad qt_ok pairS)

theorem Four.below {w w' : World} {e : Ex} {b i : Nat} {a : Option Addr} {c : Nat} (h : Four w e b i a c) (hb : Below w.heap.size w w') : Four w' e b i a c := by
  have hlt : b < w.heap.size := block_lt_of_cell h.k0
  exact ⟨(hb.cell hlt).trans h.k0, (hb.cell hlt).trans h.k1, (hb.cell hlt).trans h.k2, (hb.cell hlt).trans h.k3⟩
theorem ExAt.four {w : World} {e : Ex} {b i : Nat} (h : ExAt w e b i) : ∃ a c, Four w e b i a c ∧ Kids w a e.args := by
  obtain ⟨d0, d1, d2, a, c, d3, hk⟩ := h.open
  exact ⟨a, c, ⟨d0, d1, d2, d3⟩, hk⟩
set_option maxHeartbeats 2000000 in
set_option maxRecDepth 100000 in
theorem oabsent_any (e : Ex) (b i : Nat) (a : Option Addr) (c : Nat) (w : World) (h : Four w e b i a c) : Calls Tryz.prog 106 #[.pointer (some ⟨b, i, none⟩)] w fun e' w' => e' = .returned (.bool (absent e)) ∧ w' = w := by
  obtain ⟨k0, k1, k2, k3⟩ := h
  have hv : absent e = ((e.op == 0) && (e.n == 0) && (e.s.toList == []) && ((e.args.length : Int) == 0)) := by
    unfold absent
    rw [nil_of, Bool.beq_eq_decide_eq, Bool.beq_eq_decide_eq, Bool.beq_eq_decide_eq]
    congr 1
    cases e.args with
    | nil => rfl
    | cons x l => rw [decide_eq_false (by simp; omega)]; rfl
  have he : e.s.toList.isEmpty = (e.s.toList == []) := by cases e.s.toList <;> rfl
  rw [hv]
  clear hv
  generalize (e.s.toList == []) = b3 at he ⊢
  obtain ⟨b1, h1⟩ : ∃ b, (e.op == 0) = b := ⟨_, rfl⟩
  obtain ⟨b2, h2⟩ : ∃ b, (e.n == 0) = b := ⟨_, rfl⟩
  obtain ⟨b4, h4⟩ : ∃ b, ((e.args.length : Int) == 0) = b := ⟨_, rfl⟩
  rw [h1, h2, h4]
  cases b1 <;> cases b2 <;> cases b3 <;> cases b4
  all_goals
    go_enter Tryz.func106, Tryz.ntmps106
    go_wp2_with fail
    go_ret
    exact ⟨rfl, rfl⟩
theorem ocontents_any (s : ByteArray) (w : World) : Calls Tryz.prog 135 #[.string s] w fun e w' => e = .returned (.bool (plain s)) ∧ Below w.heap.size w w' := by
  have HC := Lib.hid (L.oquote_any s w)
  have HV : Hid (((qt s.data.toList).2 == 0) = plain s) := by
    show _ = _
    unfold plain
    by_cases h : 64 < s.size
    · rw [qt_long h, decide_eq_false (by omega)]; rfl
    · rw [decide_eq_true (by omega), Bool.true_and]
      cases h2 : s.data.toList.all prt
      · rw [qt_bad h h2]; rfl
      · rw [qt_ok h h2]; rfl
  obtain ⟨⟨q, x⟩, hq⟩ : ∃ r, qt s.data.toList = r := ⟨_, rfl⟩
  unfold pairS at HC
  rw [hq] at HC HV
  simp only at HC HV
  clear hq
  generalize plain s = P at HV ⊢
  go_enter Tryz.func135, Tryz.ntmps135
  go_wp2_with fail
  refine HC.out.mono ?_; rintro e w1 ⟨rfl, hb⟩
  go_wp2_with fail
  go_ret
  exact ⟨ret_bool HV.out, hb⟩
set_option maxHeartbeats 4000000 in
set_option maxRecDepth 100000 in
theorem omax_any (s : St) (b i : Nat) (w : World) (k0 : w.cell? ⟨b, i, none⟩ = some (.int .i64 s.op)) (k2 : w.cell? ⟨b, i + 2, none⟩ = some (.int .i64 s.mx)) :
    Calls Tryz.prog 114 #[.pointer (some ⟨b, i, none⟩)] w fun e' w' => e' = .returned (.bool (!badM s)) ∧ w' = w := by
  obtain ⟨b6, h6⟩ : ∃ b, (s.op == 6) = b := ⟨_, rfl⟩
  obtain ⟨b8, h8⟩ : ∃ b, (s.op == 8) = b := ⟨_, rfl⟩
  obtain ⟨c1, g1⟩ : ∃ b, decide (1 ≤ s.mx) = b := ⟨_, rfl⟩
  obtain ⟨c2, g2⟩ : ∃ b, decide (s.mx ≤ 16) = b := ⟨_, rfl⟩
  obtain ⟨c3, g3⟩ : ∃ b, decide (0 ≤ s.mx) = b := ⟨_, rfl⟩
  obtain ⟨c4, g4⟩ : ∃ b, decide (s.mx ≤ 999) = b := ⟨_, rfl⟩
  have HV : Hid ((!badM s) = if b6 = true then c1 && c2 else if b8 = true then c3 && c4 else true) := by
    show _ = _
    subst h6 h8 g1 g2 g3 g4
    unfold badM
    rw [Bool.eq_iff_iff]
    by_cases h6 : s.op = 6
    · have h8 : ¬ s.op = 8 := by omega
      simp [h6]
    · by_cases h8 : s.op = 8
      · simp [h8]
      · simp [h6, h8]
  rw [HV.out]
  clear HV
  cases b6
  · cases b8
    · go_enter Tryz.func114, Tryz.ntmps114
      go_wp2_with fail
      go_ret
      exact ⟨rfl, rfl⟩
    · cases c3 <;> cases c4
      all_goals
        go_enter Tryz.func114, Tryz.ntmps114
        go_wp2_with fail
        go_ret
        exact ⟨rfl, rfl⟩
  · cases c1 <;> cases c2
    all_goals
      go_enter Tryz.func114, Tryz.ntmps114
      go_wp2_with fail
      go_ret
      exact ⟨rfl, rfl⟩
end Go.Proofs.YtnelpgeiioflmaaGreatDoor.A
namespace Go.Proofs.YtnelpgeiioflmaaGreatDoor.A
open Go.RowKit
open L (Str isName prt size_len below_2 below_box ret_bool ret_int eql_eq bytes_eq)

theorem nodeE_bools {e : Ex} {d : Nat} : nodeE e d =
    if (decide (arity e.op < 0) || ((e.n != 0) && (e.op != 1)) || (!decide (e.s.size = 0) && !(e.op == 3) && !(e.op == 2))) = true then 1
    else if ((e.op == 3) && !nam e.s) = true then 7
    else if (decide (e.n < 0) || ((e.op == 2) && !plain e.s) || ((e.args.length : Int) != arity e.op)) = true then 1
    else if decide (12 < d) = true then 2 else 0 := by
  unfold nodeE
  simp only [Bool.or_eq_true, Bool.and_eq_true, decide_eq_true_eq, bne_iff_ne, beq_iff_eq, Bool.not_eq_true', beq_eq_false_iff_ne, decide_eq_false_iff_not]
  congr 1
  · exact propext ⟨fun h => by omega, fun h => by omega⟩
  · congr 1
    congr 1
    rw [or_assoc]
theorem below_dn (w : World) (n : Nat) : Below w.heap.size w (w.drewN n) := ⟨rfl, rfl, rfl, Nat.le_refl _, fun _ _ => rfl⟩
set_option maxHeartbeats 8000000 in
set_option maxRecDepth 100000 in
theorem oexprError_any (e : Ex) (b i : Nat) (a : Option Addr) (c d : Nat) (hd : d ≤ 1000000) (w : World) (h : Four w e b i a c) :
    Calls Tryz.prog 130 #[.pointer (some ⟨b, i, none⟩), .int .i64 (d : Int)] w fun e' w' => e' = .returned (.int .i64 (nodeE e d)) ∧ Below w.heap.size w w' := by
  have HA := Lib.hid (fun w => oarity_any e.op w)
  have HI := Lib.hid (fun w => L.oname_any e.s w)
  have HP := Lib.hid (fun w => ocontents_any e.s w)
  have HF := Lib.hid h
  obtain ⟨k0, k1, k2, k3⟩ := h
  have hV := nodeE_bools (e := e) (d := d)
  have he2 := nil_of (s := e.s)
  have he3 := empty_of (s := e.s)
  have bd : decide (12 < (d : Int)) = decide (12 < d) := decide_eq_decide.2 (by omega)
  change Hid (∀ w, Calls Tryz.prog 96 #[.string e.s] w fun e' w' => e' = .returned (.bool (nam e.s)) ∧ Below w.heap.size w w') at HI
  obtain ⟨v1, h1⟩ : ∃ v, decide (arity e.op < 0) = v := ⟨_, rfl⟩
  obtain ⟨v2, h2⟩ : ∃ v, (e.n != 0) = v := ⟨_, rfl⟩
  obtain ⟨v3, h3⟩ : ∃ v, (e.op != 1) = v := ⟨_, rfl⟩
  obtain ⟨v4, h4⟩ : ∃ v, decide (e.s.size = 0) = v := ⟨_, rfl⟩
  obtain ⟨v5, h5⟩ : ∃ v, (e.op == 3) = v := ⟨_, rfl⟩
  obtain ⟨v6, h6⟩ : ∃ v, (e.op == 2) = v := ⟨_, rfl⟩
  obtain ⟨v7, h7⟩ : ∃ v, nam e.s = v := ⟨_, rfl⟩
  obtain ⟨v8, h8⟩ : ∃ v, decide (e.n < 0) = v := ⟨_, rfl⟩
  obtain ⟨v9, h9⟩ : ∃ v, plain e.s = v := ⟨_, rfl⟩
  obtain ⟨v10, h10⟩ : ∃ v, ((e.args.length : Int) != arity e.op) = v := ⟨_, rfl⟩
  obtain ⟨v11, h11⟩ : ∃ v, decide (12 < d) = v := ⟨_, rfl⟩
  rw [h4] at he2 he3
  rw [h11] at bd
  rw [h7] at HI
  rw [h9] at HP
  rw [h1, h2, h3, h4, h5, h6, h7, h8, h9, h10, h11] at hV
  have HV := Lib.hid hV
  generalize arity e.op = A at HA h1 h10
  clear hV h4 h7 h9 h11
  go_enter Tryz.func130, Tryz.ntmps130
  go_wp2_with fail
  refine (HA.out _).mono ?_; rintro e' w1 ⟨rfl, rfl⟩
  go_wp2_with fail
  go_quiet (fail)
  all_goals go_wp2_with fail
  all_goals try (first
    | (refine (HI.out _).mono ?_; rintro e' w2 ⟨rfl, hb⟩; have HB := Lib.hid (below_2 (below_dn _ _) hb); obtain ⟨j0, j1, j2, j3⟩ := HF.out.below HB.out; clear hb; go_wp2_with fail)
    | (refine (HP.out _).mono ?_; rintro e' w2 ⟨rfl, hb⟩; have HB := Lib.hid (below_2 (below_dn _ _) hb); obtain ⟨j0, j1, j2, j3⟩ := HF.out.below HB.out; clear hb; go_wp2_with fail))
  all_goals try (refine (HP.out _).mono ?_; rintro e' w3 ⟨rfl, hb⟩; have HB2 := Lib.hid (below_2 HB.out hb); obtain ⟨l0, l1, l2, l3⟩ := HF.out.below HB2.out; clear hb; go_wp2_with fail)
  all_goals (go_ret; refine ⟨ret_int ?_, ?_⟩)
  all_goals first
    | exact below_dn _ _
    | exact HB2.out
    | exact HB.out
    | (rw [HV.out]; clear HV HF HI HP HA k0 k1 k2 k3 h1 h2 h3 h5 h6 h8 h10 bd he2 he3; (try clear HB2); (try clear HB); (try clear j0 j1 j2 j3); (try clear l0 l1 l2 l3); simp_all)
end Go.Proofs.YtnelpgeiioflmaaGreatDoor.A
namespace Go.Proofs.YtnelpgeiioflmaaGreatDoor.A
open L (Str isName prt)

inductive U where
  | st (s : St) (d : Nat)
  | ex (e : Ex) (d : Nat)
mutual
def nE : Ex → Nat → List U
  | .mk o n s l, d => .ex (.mk o n s l) d :: nEs l (d + 1)
def nEs : List Ex → Nat → List U
  | [], _ => []
  | e :: r, d => nE e d ++ nEs r d
end
def nR (e : Ex) : List U := if absent e then [] else nE e 1
mutual
def nS : St → Nat → List U
  | .mk o nm mx a b bd el, d => .st (.mk o nm mx a b bd el) d :: (nR a ++ (nR b ++ (nB bd (d + 1) ++ nB el (d + 1))))
def nB : List St → Nat → List U
  | [], _ => []
  | s :: r, d => nS s d ++ nB r d
end
def U.v : U → V | .st s d => .st s d | .ex e d => .ex e (decide (d = 1))
mutual
theorem nE_v : ∀ (e : Ex) (d : Nat), 1 ≤ d → (nE e d).map U.v = preE e (decide (d = 1))
  | .mk o n s l, d, h => by rw [nE, preE, List.map_cons, nEs_v l (d + 1) (by omega)]; rfl
theorem nEs_v : ∀ (l : List Ex) (d : Nat), 2 ≤ d → (nEs l d).map U.v = preEs l
  | [], _, _ => rfl
  | e :: r, d, h => by rw [nEs, preEs, List.map_append, nE_v e d (by omega), nEs_v r d h, decide_eq_false (by omega)]
end
theorem nR_v (e : Ex) : (nR e).map U.v = preR e := by
  unfold nR preR
  split
  · rfl
  · exact nE_v e 1 (Nat.le_refl _)
mutual
theorem nS_v : ∀ (s : St) (d : Nat), (nS s d).map U.v = preS s d
  | .mk o nm mx a b bd el, d => by
    rw [nS, preS, List.map_cons, List.map_append, List.map_append, List.map_append, nR_v, nR_v, nB_v bd, nB_v el]
    simp only [List.append_assoc, U.v]
theorem nB_v : ∀ (l : List St) (d : Nat), (nB l d).map U.v = preB l d
  | [], _ => rfl
  | s :: r, d => by rw [nB, preB, List.map_append, nS_v s d, nB_v r d]
end
theorem nS_parts (s : St) (d : Nat) : nS s d = .st s d :: (nR s.a ++ (nR s.b ++ (nB s.body (d + 1) ++ nB s.els (d + 1)))) := by
  obtain ⟨o, nm, mx, a, b, bd, el⟩ := s
  rw [nS]; rfl
def walkU (p : Pr) : List U := (nB p.body 1).take 401
theorem walkU_v (p : Pr) : (walkU p).map U.v = walk p := by
  unfold walkU walk
  rw [List.map_take, nB_v]
theorem walkU_len (p : Pr) : (walkU p).length ≤ 401 := by unfold walkU; rw [List.length_take]; omega

/-! ### visiting -/

section
variable {σ : Type}
def run (g : σ → U → σ × Bool) : σ → List U → σ × Bool
  | s, [] => (s, true)
  | s, u :: r => if (g s u).2 = true then run g (g s u).1 r else ((g s u).1, false)
theorem run_nil (g : σ → U → σ × Bool) (s : σ) : run g s [] = (s, true) := rfl
theorem run_cons (g : σ → U → σ × Bool) (s : σ) (u : U) (r : List U) : run g s (u :: r) = if (g s u).2 = true then run g (g s u).1 r else ((g s u).1, false) := rfl
theorem run_true {g : σ → U → σ × Bool} {s : σ} {u : U} (h : (g s u).2 = true) (r : List U) : run g s (u :: r) = run g (g s u).1 r := by rw [run_cons, if_pos h]
theorem run_app (g : σ → U → σ × Bool) : ∀ (a b : List U) (s : σ), run g s (a ++ b) = if (run g s a).2 = true then run g (run g s a).1 b else ((run g s a).1, false)
  | [], b, s => by simp [run]
  | u :: r, b, s => by
    rw [List.cons_append, run, run]
    by_cases h : (g s u).2 = true
    · rw [if_pos h, if_pos h, run_app g r b]
    · rw [if_neg h, if_neg h]
      simp
def cnt (g : σ → U → σ × Bool) (x : Int × σ) (u : U) : (Int × σ) × Bool := ((IntKind.i64.wrap (x.1 + 1), (g x.2 u).1), (g x.2 u).2 && decide (IntKind.i64.wrap (x.1 + 1) ≤ 400))
theorem wrap_small {n : Int} (h0 : 0 ≤ n) (h1 : n ≤ 1000000) : IntKind.i64.wrap n = n := by
  rw [IntKind.wrap_i64]
  omega
theorem run_cnt (g : σ → U → σ × Bool) : ∀ (l : List U) (k : Nat) (s : σ), k ≤ 400 → (run (cnt g) ((k : Int), s) l).1.2 = (run g s (l.take (401 - k))).1
  | [], k, s, _ => by simp [run]
  | u :: r, k, s, hk => by
    have hw : IntKind.i64.wrap ((k : Int) + 1) = ((k + 1 : Nat) : Int) := by rw [wrap_small (by omega) (by omega)]; rfl
    obtain ⟨m, hm⟩ : ∃ m, 401 - k = m + 1 := ⟨400 - k, by omega⟩
    rw [hm, List.take_succ_cons, run, run]
    cases hg : (g s u).2
    · rw [if_neg (by unfold cnt; simp [hg]), if_neg (by simp)]
      rfl
    · rw [if_pos rfl]
      by_cases h4 : k + 1 ≤ 400
      · rw [if_pos (by unfold cnt; simp only [hg, hw, Bool.true_and, decide_eq_true_eq]; omega)]
        have := run_cnt g r (k + 1) (g s u).1 h4
        rw [show 401 - (k + 1) = m by omega] at this
        rw [← this]
        unfold cnt
        simp only [hw]
      · rw [if_neg (by unfold cnt; simp only [hg, hw, Bool.true_and, decide_eq_true_eq]; omega)]
        obtain rfl : m = 0 := by omega
        rfl
end
theorem run_walk {σ : Type} (g : σ → U → σ × Bool) (s : σ) (p : Pr) : (run (cnt g) (0, s) (nB p.body 1)).1.2 = (run g s (walkU p)).1 := run_cnt g _ 0 s (by omega)

/-! ### the steps -/

def gN (z : Int) (_ : U) : Int × Bool := (IntKind.i64.wrap (z + 1), true)
theorem run_N : ∀ (l : List U) (n : Nat), n + l.length ≤ 1000000 → (run gN (n : Int) l).1 = ((n + l.length : Nat) : Int)
  | [], n, _ => rfl
  | u :: r, n, h => by
    rw [List.length_cons] at h ⊢
    rw [run_true rfl]
    show (run gN (IntKind.i64.wrap ((n : Int) + 1)) r).1 = _
    rw [wrap_small (by omega) (by omega), show (n : Int) + 1 = ((n + 1 : Nat) : Int) by omega, run_N r (n + 1) (by omega)]
    congr 1; omega
theorem nodes_run (p : Pr) : (run gN 0 (walkU p)).1 = (nodes p : Int) := by
  have := run_N (walkU p) 0 (by have := walkU_len p; omega)
  rw [Nat.zero_add] at this
  unfold nodes
  rw [← walkU_v, List.length_map]
  exact this
def gV (z : Int) (u : U) : Int × Bool := match u with | .st s d => (stE s d, decide (stE s d = 0)) | .ex _ _ => (z, decide (z = 0))
theorem run_V : ∀ l : List U, (run gV 0 l).1 = firstE (l.map U.v)
  | [] => rfl
  | .st s d :: r => by
    rw [run, List.map_cons, U.v, firstE]
    show (if decide (stE s d = 0) = true then run gV (stE s d) r else (stE s d, false)).1 = _
    by_cases h : stE s d = 0
    · rw [if_pos (decide_eq_true h), if_neg (fun x => x h), h]
      exact run_V r
    · rw [if_neg (by rw [decide_eq_false h]; decide), if_pos h]
  | .ex e d :: r => by
    rw [run, List.map_cons, U.v, firstE]
    exact run_V r
theorem first_run (p : Pr) : (run gV 0 (walkU p)).1 = firstE (walk p) := by rw [run_V, walkU_v]
def declU (u : U) : List ByteArray := match u with | .st s _ => if s.op = 1 ∨ s.op = 6 then [s.name] else [] | .ex _ _ => []
def gM (l : List ByteArray) (u : U) : List ByteArray × Bool := (l ++ declU u, true)
theorem run_M : ∀ (l : List U) (m : List ByteArray), (run gM m l).1 = m ++ (l.map U.v).filterMap V.decl
  | [], m => by simp [run]
  | .ex e d :: r, m => by
    rw [run_true rfl, List.map_cons, U.v, List.filterMap_cons]
    show (run gM (m ++ []) r).1 = _
    rw [List.append_nil]
    exact run_M r m
  | .st s d :: r, m => by
    rw [run_true rfl, List.map_cons, U.v, List.filterMap_cons]
    by_cases h : s.op = 1 ∨ s.op = 6
    · have h1 : V.decl (.st s d) = some s.name := by show (if s.op = 1 ∨ s.op = 6 then some s.name else none) = _; rw [if_pos h]
      have h2 : (gM m (U.st s d)).1 = m ++ [s.name] := by show m ++ (if s.op = 1 ∨ s.op = 6 then [s.name] else []) = _; rw [if_pos h]
      rw [h1, h2, run_M r, List.append_assoc]; rfl
    · have h1 : V.decl (.st s d) = none := by show (if s.op = 1 ∨ s.op = 6 then some s.name else none) = _; rw [if_neg h]
      have h2 : (gM m (U.st s d)).1 = m := by show m ++ (if s.op = 1 ∨ s.op = 6 then [s.name] else []) = _; rw [if_neg h, List.append_nil]
      rw [h1, h2]; exact run_M r m
theorem names_run (p : Pr) : (run gM (p.params.map Pm.name) (walkU p)).1 = names p := by rw [run_M, walkU_v]; rfl
def gE (z : Int) (u : U) : Int × Bool := match u with | .st _ _ => (z, false) | .ex e d => (nodeE e d, decide (nodeE e d = 0))
mutual
theorem run_E : ∀ (e : Ex) (d : Nat) (z : Int), run gE z (nE e d) = (vE e d, decide (vE e d = 0))
  | .mk o n s l, d, z => by
    rw [nE, run, vE]
    show (if decide (nodeE (.mk o n s l) d = 0) = true then run gE (nodeE (.mk o n s l) d) (nEs l (d + 1)) else (nodeE (.mk o n s l) d, false)) = _
    by_cases h : nodeE (.mk o n s l) d = 0
    · rw [if_pos (decide_eq_true h), if_neg (fun x => x h), h, run_Es l (d + 1)]
    · rw [if_neg (by rw [decide_eq_false h]; decide), if_pos h, decide_eq_false h]
theorem run_Es : ∀ (l : List Ex) (d : Nat), run gE 0 (nEs l d) = (vEs l d, decide (vEs l d = 0))
  | [], _ => rfl
  | e :: r, d => by
    rw [nEs, run_app, run_E e d, vEs]
    by_cases h : vE e d = 0
    · simp only [h, decide_true, if_true]
      rw [if_neg (by simp), run_Es r d]
    · rw [if_neg (by simp only [decide_eq_false h]; decide), if_pos h, decide_eq_false h]
end
/-! ### lists of nodes, from an index on -/
theorem nEs_drop {l : List Ex} {k : Nat} (h : k < l.length) (d : Nat) : nEs (l.drop k) d = nE l[k] d ++ nEs (l.drop (k + 1)) d := by
  rw [List.drop_eq_getElem_cons h, nEs]
theorem nB_drop {l : List St} {k : Nat} (h : k < l.length) (d : Nat) : nB (l.drop k) d = nS l[k] d ++ nB (l.drop (k + 1)) d := by
  rw [List.drop_eq_getElem_cons h, nB]
/-! ### sizes -/
theorem cEs_get : ∀ {l : List Ex} {k : Nat} (h : k < l.length), cE l[k] ≤ cEs l
  | e :: r, 0, _ => by rw [cEs]; simp
  | e :: r, k + 1, h => by
    rw [cEs]
    have := cEs_get (l := r) (k := k) (by simpa using h)
    simp only [List.getElem_cons_succ]
    omega
theorem cB_get : ∀ {l : List St} {k : Nat} (h : k < l.length), cS l[k] ≤ cB l
  | e :: r, 0, _ => by rw [cB]; simp
  | e :: r, k + 1, h => by
    rw [cB]
    have := cB_get (l := r) (k := k) (by simpa using h)
    simp only [List.getElem_cons_succ]
    omega
theorem cE_parts (e : Ex) : cE e = 1 + e.s.size / 64 + cEs e.args := by
  obtain ⟨o, n, s, l⟩ := e
  rw [cE]; rfl
end Go.Proofs.YtnelpgeiioflmaaGreatDoor.A
namespace Go.Proofs.YtnelpgeiioflmaaGreatDoor.A
open Go.RowKit
open L (Str isName prt size_len below_2 below_box ret_bool ret_int eql_eq bytes_eq)

def nodeV (ps pe : Option Addr) (d : Nat) : Value := .agg #[.pointer ps, .pointer pe, .int .i64 (d : Int)]
def U.d : U → Nat | .st _ d => d | .ex _ d => d
def UAt (w : World) : U → Option Addr → Option Addr → Prop
  | .st s _, ps, pe => ∃ b i, ps = some ⟨b, i, none⟩ ∧ pe = none ∧ StAt w s b i
  | .ex e _, ps, pe => ∃ b i, ps = none ∧ pe = some ⟨b, i, none⟩ ∧ ExAt w e b i
def UOk : U → Prop
  | .st s d => okS s ∧ d + cS s ≤ 1000000
  | .ex e d => okE e ∧ d + cE e ≤ 1000000
structure StepA {σ : Type} (p1 : Addr) (g : σ → U → σ × Bool) (w0 : World) (I : σ → World → Prop) : Prop where
  call : ∀ (s : σ) (e : Ex) (d b i : Nat) (w : World), I s w → Below w0.heap.size w0 w → ExAt w0 e b i → okE e → d + cE e ≤ 1000000 →
    Calls Tryz.prog 129 #[nodeV none (some ⟨b, i, none⟩) d, .pointer (some p1)] w fun e' w' => e' = .returned (.bool (g s (.ex e d)).2) ∧ I (g s (.ex e d)).1 w' ∧ Below w0.heap.size w w'
def GivesR {σ : Type} (w0 : World) (I : σ → World → Prop) (r : σ × Bool) (w : World) (e' : Ending) (w' : World) : Prop := e' = .returned (.bool r.2) ∧ I r.1 w' ∧ Below w0.heap.size w w'
section
variable {σ : Type} {g : σ → U → σ × Bool} {w0 : World} {I : σ → World → Prop}
def QA (p1 : Addr) (g : σ → U → σ × Bool) (w0 : World) (I : σ → World → Prop) (e : Ex) : Prop := ∀ (d b i : Nat) (s : σ) (w : World), okE e → d + cE e ≤ 1000000 → ExAt w0 e b i → I s w → Below w0.heap.size w0 w →
  Calls Tryz.prog 107 #[.pointer (some ⟨b, i, none⟩), .int .i64 (d : Int), .func (Fn.func 129) #[] #[.pointer (some p1)]] w fun e' w' => GivesR w0 I (run g s (nE e d)) w e' w'
set_option maxHeartbeats 4000000 in
set_option maxRecDepth 100000 in
theorem owalkExprA_any {p1 : Addr} (H : StepA p1 g w0 I) : ∀ e, QA p1 g w0 I e := by
  refine Ex.ind (P := QA p1 g w0 I) ?_
  intro o n t l ih d b i s w hok hsz hat hI hb0
  have HC := Lib.hid (H.call s (.mk o n t l) d b i w hI hb0 hat hok hsz)
  have hsz2 : d + (1 + t.size / 64 + cEs l) ≤ 1000000 := by rw [cE] at hsz; exact hsz
  have hd : d ≤ 1000000 := by omega
  obtain ⟨_, hl, hoks⟩ := okE_open hok
  obtain ⟨a, c, hf, hK⟩ := hat.four
  have HK : Hid (Kids w0 a l) := hK
  have HF : Hid (w0.cell? ⟨b, i + 3, none⟩ = some (.slice a l.length c)) := hf.k3
  have hblt := hat.lt
  have HIH := Lib.hid ih
  have HOK := Lib.hid hoks
  have HB0 := Lib.hid hb0
  have HS : Hid (∀ k (h : k < l.length), (d + 1) + cE l[k] ≤ 1000000) := fun k h => by have := cEs_get h; omega
  rw [nE, run_cons]
  obtain ⟨⟨s1, y⟩, hg⟩ : ∃ r, g s (.ex (.mk o n t l) d) = r := ⟨_, rfl⟩
  rw [hg] at HC ⊢
  simp only [nodeV] at HC
  clear hg hok hsz hsz2 hat hf hK ih hoks hb0 hI
  cases y
  · simp only [Bool.false_eq_true, if_false]
    go_enter Tryz.func107, Tryz.ntmps107
    go_wp2_with fail
    refine HC.out.mono ?_; rintro e w1 ⟨rfl, hI1, hb1⟩
    have HI1 := Lib.hid hI1
    have HB1 := Lib.hid hb1
    clear hI1 hb1
    go_wp2_with fail
    go_ret
    exact ⟨rfl, HI1.out, HB1.out⟩
  · simp only [if_true]
    obtain ⟨R, hR⟩ : ∃ R, run g s1 (nEs l (d + 1)) = R := ⟨_, rfl⟩
    rw [hR]
    have HR : Hid (run g s1 (nEs (l.drop 0) (d + 1)) = R) := hR
    obtain ⟨m, hm⟩ : ∃ m, l.length = m := ⟨_, rfl⟩
    have HL := Lib.hid hm
    rw [hm] at HF hl
    clear hR hm
    go_enter Tryz.func107, Tryz.ntmps107
    go_wp2_with fail
    refine HC.out.mono ?_; rintro e w1 ⟨rfl, hI1, hb1⟩
    have HI1 := Lib.hid hI1
    have HB1 := Lib.hid hb1
    have k3 := ((HB0.out.trans hb1).cell hblt).trans HF.out
    clear hI1 hb1
    go_wp2_with fail
    go_loopw [19] (fun s19 wr => ∃ (k : Nat) (sk : σ), k ≤ m ∧ s19 = .int .i64 k ∧ Hid (run g sk (nEs (l.drop k) (d + 1)) = R) ∧ Hid (I sk wr) ∧ Hid (Below w0.heap.size w wr)) (fun s19 _ => m - (intOf s19).toNat)
    case atStart => exact ⟨0, s1, Nat.zero_le _, rfl, HR, HI1, HB1⟩
    case round =>
      obtain ⟨k, sk, hk, rfl, HX, HI, HB⟩ := hrel
      have hbr := HB0.out.trans HB.out
      by_cases hlt : k < m
      · have hlx : k < l.length := by rw [HL.out]; exact hlt
        have hx := HX.out
        rw [nEs_drop hlx, run_app] at hx
        have f3 := (hbr.cell hblt).trans HF.out
        obtain ⟨b2, i2, rfl, hat⟩ := HK.out.open hlx
        have HY := Lib.hid (HIH.out k hlx (d + 1) b2 (i2 + k * 4) sk wr (HOK.out.get k hlx) (HS.out k hlx) hat HI.out hbr)
        simp only [Int.natCast_add, Int.natCast_one] at HY
        generalize run g sk (nE l[k] (d + 1)) = r at HY hx
        obtain ⟨s2, y⟩ := r
        clear hat hbr
        cases y
        · simp only [Bool.false_eq_true, if_false] at hx
          have HV := Lib.hid hx
          clear hx
          go_wp2_with fail
          refine HY.out.mono ?_; rintro e w2 ⟨rfl, hI2, hb2⟩
          have HI2 := Lib.hid hI2
          have HB2 := Lib.hid (HB.out.trans hb2)
          clear hI2 hb2
          go_wp2_with fail
          go_ret
          exact ⟨ret_bool (by rw [← HV.out]), by rw [← HV.out]; exact HI2.out, HB2.out⟩
        · simp only [if_true] at hx
          have HN := Lib.hid hx
          clear hx
          go_wp2_with fail
          refine HY.out.mono ?_; rintro e w2 ⟨rfl, hI2, hb2⟩
          have HI2 := Lib.hid hI2
          have HB2 := Lib.hid (HB.out.trans hb2)
          clear hI2 hb2
          go_wp2_with fail
          go_roundw
          case rel => exact ⟨k + 1, s2, by omega, by go_num, HN, HI2, HB2⟩
          case measure => simp [intOf]; omega
      · have HV : Hid (R = (sk, true)) := by
          show _ = _
          rw [← HX.out, List.drop_of_length_le (by rw [HL.out]; omega), nEs, run_nil]
        go_wp2_with fail
        go_ret
        exact ⟨ret_bool (by rw [HV.out]), by rw [HV.out]; exact HI.out, HB.out⟩
end

/-! ### ValidExpr -/

structure Cell1 (N : Nat) (v : Value) (w : World) : Prop where
  lt : N < w.heap.size
  cell : w.cell? ⟨N, 0, none⟩ = some v
  free : w.frozen? ⟨N, 0, none⟩ = false
theorem Cell1.below {N B : Nat} {v : Value} {w w' : World} (h : Cell1 N v w) (hb : Below B w w') (hB : N < B) : Cell1 N v w' :=
  ⟨Nat.lt_of_lt_of_le h.lt hb.size, (hb.cell (by exact hB)).trans h.cell, (hb.frozen (by exact hB)).trans h.free⟩
theorem Cell1.later {N : Nat} {v : Value} {w w' : World} (h : Cell1 N v w) (hb : Below w.heap.size w w') : Cell1 N v w' := h.below hb h.lt
theorem Cell1.set {N : Nat} {v u : Value} {w : World} (h : Cell1 N v w) : Cell1 N u (w.setCell ⟨N, 0, none⟩ u) := by
  obtain ⟨h1, h2, h3⟩ := h
  exact ⟨by simpa using h1, by go_simp, by go_simp⟩
theorem cell1_at {N : Nat} {v : Value} {t : TypeId} {w : World} (h : w.heap.size = N) : Cell1 N v (w.alloc (.cells #[v] t)) := by
  subst h
  exact ⟨by simp, by go_simp, by go_simp⟩
theorem below_b {w w1 w2 w3 : World} (h : Below w.heap.size w w1) (h2 : Below w1.heap.size w1 w2) (h3 : Below w1.heap.size w2 w3) : Below w.heap.size w w3 := (below_2 h h2).trans (h3.mono h.size)
theorem exAt_box {w : World} {e : Ex} {a : Option Addr} {c : Nat} (hK : Kids w a e.args) : ExAt (w.alloc (exO e a c)) e w.heap.size 0 := by
  obtain ⟨h0, h1, h2, h3⟩ := exO_cells w e a c
  have hk := hK.below (below_box w (exO e a c))
  obtain ⟨o, n, s, l⟩ := e
  rw [ExAt]
  exact ⟨h0, h1, h2, a, c, h3, hk⟩
set_option maxHeartbeats 2000000 in
set_option maxRecDepth 100000 in
theorem stepE {w0 : World} {N : Nat} (hN : w0.heap.size ≤ N) : StepA ⟨N, 0, none⟩ gE w0 (fun z w => Cell1 N (.int .i64 z) w) := by
  refine ⟨fun z e d b i w hI hb0 hat hok hsz => ?_⟩
  obtain ⟨a, c, hf, _⟩ := hat.four
  have hat2 := hat.below hb0
  obtain ⟨a, c, hf, _⟩ := hat2.four
  have hd : d ≤ 1000000 := by omega
  have hw := below_box w (.cells #[.pointer none, .pointer (some ⟨b, i, none⟩), .int .i64 (d : Int)] 80)
  have HC := Lib.hid (oexprError_any e b i a c d hd _ (hf.below hw))
  have HI := Lib.hid (hI.later hw)
  have HW := Lib.hid hw
  have HZ := Lib.hid hb0.size
  have HV : Hid (gE z (.ex e d) = (nodeE e d, (nodeE e d == 0))) := by
    show (nodeE e d, decide (nodeE e d = 0)) = _
    rw [Bool.beq_eq_decide_eq]
  rw [HV.out]
  unfold nodeV
  generalize nodeE e d = x at HC ⊢
  clear hI hf hat hat2 hok hsz hw HV hb0
  go_enter Tryz.func129, Tryz.ntmps129
  go_wp2_with fail
  refine HC.out.mono ?_; rintro e' w2 ⟨rfl, hb⟩
  have HI2 := Lib.hid (HI.out.later hb)
  have HB : Hid (Below w0.heap.size w w2) := (below_2 HW.out hb).mono HZ.out
  obtain ⟨j1, j2, j3⟩ := HI2.out
  clear hb
  go_wp2_with fail
  go_ret
  exact ⟨rfl, HI2.out.set, HB.out.setCell hN _⟩
end Go.Proofs.YtnelpgeiioflmaaGreatDoor.A
namespace Go.Proofs.YtnelpgeiioflmaaGreatDoor.A
open Go.RowKit
open L (Str isName prt size_len below_2 below_box ret_bool ret_int eql_eq bytes_eq)

theorem StAt.parts {w : World} {s : St} {b i : Nat} (h : StAt w s b i) : ExAt w s.a b (i + 3) ∧ ExAt w s.b b (i + 7) ∧ (∃ a c, w.cell? ⟨b, i + 11, none⟩ = some (.slice a s.body.length c) ∧ Bodies w a s.body) ∧ (∃ a c, w.cell? ⟨b, i + 12, none⟩ = some (.slice a s.els.length c) ∧ Bodies w a s.els) := by
  obtain ⟨o, nm, mx, a, b', bd, el⟩ := s
  rw [StAt] at h
  obtain ⟨h0, h1, h2, h3, h4, ⟨a5, c5, h5, g5⟩, ⟨a6, c6, h6, g6⟩⟩ := h
  exact ⟨h3, h4, ⟨a5, c5, h5, g5⟩, ⟨a6, c6, h6, g6⟩⟩
theorem Cell1.moved {N : Nat} {v : Value} {w w' : World} (h : Cell1 N v w) (hk : w'.heap[N]? = w.heap[N]?) : Cell1 N v w' :=
  ⟨by
    have h1 := h.lt
    have h2 : w.heap[N]? = some w.heap[N] := Array.getElem?_eq_getElem h1
    rw [h2] at hk
    exact (Array.getElem?_eq_some_iff.1 hk).1, (World.cell?_of_block (w := w) hk).trans h.cell, (World.frozen?_of_block (w := w) hk).trans h.free⟩
theorem Cell1.moved2 {N : Nat} {v : Value} {w w' : World} (h : Cell1 N v w) (hk : w'.heap[N]? = w.heap[N]?) : Cell1 N v w' := h.moved hk
structure StepW {σ : Type} (p1 p2 : Addr) (g : σ → U → σ × Bool) (w0 : World) (I : Bool → σ → World → Prop) : Prop where
  call : ∀ (s : σ) (u : U) (ps pe : Option Addr) (w : World), I true s w → Below w0.heap.size w0 w → UAt w0 u ps pe → UOk u →
    Calls Tryz.prog 78 #[nodeV ps pe u.d, .pointer (some p1), .pointer (some p2)] w fun e w' => e = .returned (.bool (g s u).2) ∧ I (g s u).2 (g s u).1 w' ∧ Below w0.heap.size w w'
def GivesW1 {σ : Type} (w0 : World) (I : Bool → σ → World → Prop) (r : σ × Bool) (w : World) (e' : Ending) (w' : World) : Prop := e' = .returned (.bool r.2) ∧ I r.2 r.1 w' ∧ Below w0.heap.size w w'
section
variable {σ : Type} {g : σ → U → σ × Bool} {w0 : World} {I : Bool → σ → World → Prop} {p1 p2 : Addr}
def QWx (p1 p2 : Addr) (g : σ → U → σ × Bool) (w0 : World) (I : Bool → σ → World → Prop) (e : Ex) : Prop := ∀ (d b i : Nat) (s : σ) (w : World), okE e → d + cE e ≤ 1000000 → ExAt w0 e b i → I true s w → Below w0.heap.size w0 w →
  Calls Tryz.prog 107 #[.pointer (some ⟨b, i, none⟩), .int .i64 (d : Int), .func (Fn.func 78) #[] #[.pointer (some p1), .pointer (some p2)]] w fun e' w' => GivesW1 w0 I (run g s (nE e d)) w e' w'
set_option maxHeartbeats 4000000 in
set_option maxRecDepth 100000 in
theorem owalkExprW_any {p1 p2 : Addr} (H : StepW p1 p2 g w0 I) : ∀ e, QWx p1 p2 g w0 I e := by
  refine Ex.ind (P := QWx p1 p2 g w0 I) ?_
  intro o n t l ih d b i s w hok hsz hat hI hb0
  have HC := Lib.hid (H.call s (.ex (.mk o n t l) d) none (some ⟨b, i, none⟩) w hI hb0 ⟨b, i, rfl, rfl, hat⟩ ⟨hok, hsz⟩)
  have hsz2 : d + (1 + t.size / 64 + cEs l) ≤ 1000000 := by rw [cE] at hsz; exact hsz
  have hd : d ≤ 1000000 := by omega
  obtain ⟨_, hl, hoks⟩ := okE_open hok
  obtain ⟨a, c, hf, hK⟩ := hat.four
  have HK : Hid (Kids w0 a l) := hK
  have HF : Hid (w0.cell? ⟨b, i + 3, none⟩ = some (.slice a l.length c)) := hf.k3
  have hblt := hat.lt
  have HIH := Lib.hid ih
  have HOK := Lib.hid hoks
  have HB0 := Lib.hid hb0
  have HS : Hid (∀ k (h : k < l.length), (d + 1) + cE l[k] ≤ 1000000) := fun k h => by have := cEs_get h; omega
  rw [nE, run_cons]
  obtain ⟨⟨s1, y⟩, hg⟩ : ∃ r, g s (.ex (.mk o n t l) d) = r := ⟨_, rfl⟩
  rw [hg] at HC ⊢
  simp only [nodeV, U.d] at HC
  clear hg hok hsz hsz2 hat hf hK ih hoks hb0 hI
  cases y
  · simp only [Bool.false_eq_true, if_false]
    go_enter Tryz.func107, Tryz.ntmps107
    go_wp2_with fail
    refine HC.out.mono ?_; rintro e w1 ⟨rfl, hI1, hb1⟩
    have HI1 := Lib.hid hI1
    have HB1 := Lib.hid hb1
    clear hI1 hb1
    go_wp2_with fail
    go_ret
    exact ⟨rfl, HI1.out, HB1.out⟩
  · simp only [if_true]
    obtain ⟨R, hR⟩ : ∃ R, run g s1 (nEs l (d + 1)) = R := ⟨_, rfl⟩
    rw [hR]
    have HR : Hid (run g s1 (nEs (l.drop 0) (d + 1)) = R) := hR
    obtain ⟨m, hm⟩ : ∃ m, l.length = m := ⟨_, rfl⟩
    have HL := Lib.hid hm
    rw [hm] at HF hl
    clear hR hm
    go_enter Tryz.func107, Tryz.ntmps107
    go_wp2_with fail
    refine HC.out.mono ?_; rintro e w1 ⟨rfl, hI1, hb1⟩
    have HI1 := Lib.hid hI1
    have HB1 := Lib.hid hb1
    have k3 := ((HB0.out.trans hb1).cell hblt).trans HF.out
    clear hI1 hb1
    go_wp2_with fail
    go_loopw [19] (fun s19 wr => ∃ (k : Nat) (sk : σ), k ≤ m ∧ s19 = .int .i64 k ∧ Hid (run g sk (nEs (l.drop k) (d + 1)) = R) ∧ Hid (I true sk wr) ∧ Hid (Below w0.heap.size w wr)) (fun s19 _ => m - (intOf s19).toNat)
    case atStart => exact ⟨0, s1, Nat.zero_le _, rfl, HR, HI1, HB1⟩
    case round =>
      obtain ⟨k, sk, hk, rfl, HX, HI, HB⟩ := hrel
      have hbr := HB0.out.trans HB.out
      by_cases hlt : k < m
      · have hlx : k < l.length := by rw [HL.out]; exact hlt
        have hx := HX.out
        rw [nEs_drop hlx, run_app] at hx
        have f3 := (hbr.cell hblt).trans HF.out
        obtain ⟨b2, i2, rfl, hat⟩ := HK.out.open hlx
        have HY := Lib.hid (HIH.out k hlx (d + 1) b2 (i2 + k * 4) sk wr (HOK.out.get k hlx) (HS.out k hlx) hat HI.out hbr)
        simp only [Int.natCast_add, Int.natCast_one] at HY
        generalize run g sk (nE l[k] (d + 1)) = r at HY hx
        obtain ⟨s2, y⟩ := r
        clear hat hbr
        cases y
        · simp only [Bool.false_eq_true, if_false] at hx
          have HV := Lib.hid hx
          clear hx
          go_wp2_with fail
          refine HY.out.mono ?_; rintro e w2 ⟨rfl, hI2, hb2⟩
          have HI2 := Lib.hid hI2
          have HB2 := Lib.hid (HB.out.trans hb2)
          clear hI2 hb2
          go_wp2_with fail
          go_ret
          exact ⟨ret_bool (by rw [← HV.out]), by rw [← HV.out]; exact HI2.out, HB2.out⟩
        · simp only [if_true] at hx
          have HN := Lib.hid hx
          clear hx
          go_wp2_with fail
          refine HY.out.mono ?_; rintro e w2 ⟨rfl, hI2, hb2⟩
          have HI2 := Lib.hid hI2
          have HB2 := Lib.hid (HB.out.trans hb2)
          clear hI2 hb2
          go_wp2_with fail
          go_roundw
          case rel => exact ⟨k + 1, s2, by omega, by go_num, HN, HI2, HB2⟩
          case measure => simp [intOf]; omega
      · have HV : Hid (R = (sk, true)) := by
          show _ = _
          rw [← HX.out, List.drop_of_length_le (by rw [HL.out]; omega), nEs, run_nil]
        go_wp2_with fail
        go_ret
        exact ⟨ret_bool (by rw [HV.out]), by rw [HV.out]; exact HI.out, HB.out⟩

set_option maxHeartbeats 2000000 in
set_option maxRecDepth 100000 in
theorem owalkField_any (H : StepW p1 p2 g w0 I) (e : Ex) (b i : Nat) (s : σ) (w : World) (hok : okE e) (hsz : 1 + cE e ≤ 1000000) (hat : ExAt w0 e b i) (hI : I true s w) (hb0 : Below w0.heap.size w0 w) :
    Calls Tryz.prog 94 #[.pointer (some ⟨b, i, none⟩), .func (Fn.func 78) #[] #[.pointer (some p1), .pointer (some p2)]] w fun e' w' => GivesW1 w0 I (run g s (nR e)) w e' w' := by
  obtain ⟨a, c, hf, _⟩ := (hat.below hb0).four
  have HA := Lib.hid (oabsent_any e b i a c w hf)
  have HC := Lib.hid (owalkExprW_any H e 1 b i s w hok hsz hat hI hb0)
  have HI := Lib.hid hI
  unfold nR
  by_cases hv : absent e = true
  · rw [hv] at HA
    rw [if_pos hv, run_nil]
    clear hI hb0 hat hf hok hsz hv HC
    go_enter Tryz.func94, Tryz.ntmps94
    go_wp2_with fail
    refine HA.out.mono ?_; rintro e' w1 ⟨rfl, rfl⟩
    go_wp2_with fail
    go_ret
    exact ⟨rfl, HI.out, Below.refl _ _⟩
  · rw [if_neg hv]
    rw [Bool.eq_false_iff.2 hv] at HA
    simp only [show ((1 : Nat) : Int) = 1 from rfl] at HC
    generalize run g s (nE e 1) = r at HC ⊢
    clear hI hb0 hat hf hok hsz hv
    go_enter Tryz.func94, Tryz.ntmps94
    go_wp2_with fail
    refine HA.out.mono ?_; rintro e' w1 ⟨rfl, rfl⟩
    go_wp2_with fail
    refine HC.out.mono ?_; rintro e' w1 ⟨rfl, h1, h2⟩
    have H1 := Lib.hid h1
    have H2 := Lib.hid h2
    clear h1 h2
    go_wp2_with fail
    go_ret
    exact ⟨rfl, H1.out, H2.out⟩
def QS (p1 p2 : Addr) (g : σ → U → σ × Bool) (w0 : World) (I : Bool → σ → World → Prop) (l : List St) : Prop := ∀ (a : Option Addr) (c d : Nat) (s : σ) (w : World), okB l → l.length ≤ 1000000000000000 → d + cB l ≤ 1000000 → Bodies w0 a l → I true s w → Below w0.heap.size w0 w →
  Calls Tryz.prog 77 #[.slice a l.length c, .int .i64 (d : Int), .func (Fn.func 78) #[] #[.pointer (some p1), .pointer (some p2)]] w fun e' w' => GivesW1 w0 I (run g s (nB l d)) w e' w'
set_option maxHeartbeats 8000000 in
set_option maxRecDepth 100000 in
theorem owalkStmts_any (H : StepW p1 p2 g w0 I) : ∀ l, QS p1 p2 g w0 I l := by
  refine body_ind fun l ih => ?_
  intro a c d s w hok hl hsz hK hI hb0
  have HK := Lib.hid hK
  have HIH := Lib.hid ih
  have HOK := Lib.hid hok
  have HB0 := Lib.hid hb0
  have HI0 := Lib.hid hI
  have HH := Lib.hid H
  have hd : d ≤ 1000000 := by omega
  have HS : Hid (∀ k (h : k < l.length), d + cS l[k] ≤ 1000000) := fun k h => by have := cB_get h; omega
  obtain ⟨R, hR⟩ : ∃ R, run g s (nB l d) = R := ⟨_, rfl⟩
  rw [hR]
  have HR : Hid (run g s (nB (l.drop 0) d) = R) := hR
  obtain ⟨m, hm⟩ : ∃ m, l.length = m := ⟨_, rfl⟩
  have HL := Lib.hid hm
  rw [hm] at hl ⊢
  clear hR hm hK ih hok hb0 hI hsz H
  go_enter Tryz.func77, Tryz.ntmps77
  go_wp2_with fail
  go_loopw [12] (fun s12 wr => ∃ (k : Nat) (sk : σ), k ≤ m ∧ s12 = .int .i64 k ∧ Hid (run g sk (nB (l.drop k) d) = R) ∧ Hid (I true sk wr) ∧ Hid (Below w0.heap.size w wr)) (fun s12 _ => m - (intOf s12).toNat)
  case atStart => exact ⟨0, s, Nat.zero_le _, rfl, HR, HI0, Below.refl _ _⟩
  case round =>
    obtain ⟨k, sk, hk, rfl, HX, HI, HB⟩ := hrel
    by_cases hlt : k < m
    · have hlx : k < l.length := by rw [HL.out]; exact hlt
      have hx := HX.out
      rw [nB_drop hlx, run_app, nS_parts, run_cons] at hx
      obtain ⟨b2, i2, rfl, hat⟩ := HK.out.open hlx
      have ho := okS_open (HOK.out.get k hlx)
      have ho2 := HOK.out.get k hlx
      have hs := HS.out k hlx
      obtain ⟨q1, q2⟩ := HIH.out k hlx
      generalize l[k] = t at hat ho ho2 hs q1 q2 hx
      have hsp := cS_parts t
      obtain ⟨hA, hBb, ⟨a3, c3, e3, hK3⟩, ⟨a4, c4, e4, hK4⟩⟩ := hat.parts
      have hblt := hat.lt
      have HC1 := Lib.hid (HH.out.call sk (.st t d) (some ⟨b2, i2 + k * 13, none⟩) none wr HI.out (HB0.out.trans HB.out) ⟨b2, i2 + k * 13, rfl, rfl, hat⟩ ⟨ho2, hs⟩)
      have HC2 := Lib.hid (fun s1 w1 h1 h2 => owalkField_any HH.out t.a b2 (i2 + k * 13 + 3) s1 w1 ho.a (by omega) hA h1 h2)
      have HC3 := Lib.hid (fun s1 w1 h1 h2 => owalkField_any HH.out t.b b2 (i2 + k * 13 + 7) s1 w1 ho.b (by omega) hBb h1 h2)
      have HC4 := Lib.hid (fun s1 w1 h1 h2 => q1 a3 c3 (d + 1) s1 w1 ho.body ho.bodyLen (by omega) hK3 h1 h2)
      have HC5 := Lib.hid (fun s1 w1 h1 h2 => q2 a4 c4 (d + 1) s1 w1 ho.els ho.elsLen (by omega) hK4 h1 h2)
      have HE3 := Lib.hid e3
      have HE4 := Lib.hid e4
      simp only [Int.natCast_add, Int.natCast_one, nodeV, U.d] at HC1 HC4 HC5
      clear hat ho ho2 hs q1 q2 hsp hA hBb hK3 hK4 e3 e4
      generalize g sk (.st t d) = r1 at HC1 hx
      obtain ⟨s1, y1⟩ := r1
      cases y1
      · simp only [Bool.false_eq_true, if_false] at hx
        have HV := Lib.hid hx
        clear hx
        go_wp2_with fail
        refine HC1.out.mono ?_; rintro e w1 ⟨rfl, hI1, hb1⟩
        have HI1 := Lib.hid hI1
        have HB1 := Lib.hid (HB.out.trans hb1)
        clear hI1 hb1
        go_wp2_with fail
        go_ret
        exact ⟨ret_bool (by rw [← HV.out]), by rw [← HV.out]; exact HI1.out, HB1.out⟩
      simp only [if_true] at hx
      rw [run_app] at hx
      go_wp2_with fail
      refine HC1.out.mono ?_; rintro e w1 ⟨rfl, hI1, hb1⟩
      have hB1 := HB.out.trans hb1
      have hD2 := HC2.out s1 w1 hI1 (HB0.out.trans hB1)
      have HB1 := Lib.hid hB1
      clear hI1 hb1 hB1
      generalize run g s1 (nR t.a) = r2 at hD2 hx
      have HD2 := Lib.hid hD2
      clear hD2
      obtain ⟨s2, y2⟩ := r2
      cases y2
      · simp only [Bool.false_eq_true, if_false] at hx
        have HV := Lib.hid hx
        clear hx
        go_wp2_with fail
        refine HD2.out.mono ?_; rintro e w2 ⟨rfl, hI2, hb2⟩
        have HI2 := Lib.hid hI2
        have HB2 := Lib.hid (HB1.out.trans hb2)
        clear hI2 hb2
        go_wp2_with fail
        go_ret
        exact ⟨ret_bool (by rw [← HV.out]), by rw [← HV.out]; exact HI2.out, HB2.out⟩
      simp only [if_true] at hx
      rw [run_app] at hx
      go_wp2_with fail
      refine HD2.out.mono ?_; rintro e w2 ⟨rfl, hI2, hb2⟩
      have hB2 := HB1.out.trans hb2
      have hD3 := HC3.out s2 w2 hI2 (HB0.out.trans hB2)
      have HB2 := Lib.hid hB2
      clear hI2 hb2 hB2
      generalize run g s2 (nR t.b) = r3 at hD3 hx
      have HD3 := Lib.hid hD3
      clear hD3
      obtain ⟨s3, y3⟩ := r3
      cases y3
      · simp only [Bool.false_eq_true, if_false] at hx
        have HV := Lib.hid hx
        clear hx
        go_wp2_with fail
        refine HD3.out.mono ?_; rintro e w3 ⟨rfl, hI3, hb3⟩
        have HI3 := Lib.hid hI3
        have HB3 := Lib.hid (HB2.out.trans hb3)
        clear hI3 hb3
        go_wp2_with fail
        go_ret
        exact ⟨ret_bool (by rw [← HV.out]), by rw [← HV.out]; exact HI3.out, HB3.out⟩
      simp only [if_true] at hx
      rw [run_app] at hx
      go_wp2_with fail
      refine HD3.out.mono ?_; rintro e w3 ⟨rfl, hI3, hb3⟩
      have hB3 := HB2.out.trans hb3
      have hD4 := HC4.out s3 w3 hI3 (HB0.out.trans hB3)
      have e3 := ((HB0.out.trans hB3).cell hblt).trans HE3.out
      have HB3 := Lib.hid hB3
      clear hI3 hb3 hB3
      generalize run g s3 (nB t.body (d + 1)) = r4 at hD4 hx
      generalize t.body.length = m3 at hD4 e3
      have HD4 := Lib.hid hD4
      clear hD4
      obtain ⟨s4, y4⟩ := r4
      cases y4
      · simp only [Bool.false_eq_true, if_false] at hx
        have HV := Lib.hid hx
        clear hx
        go_wp2_with fail
        refine HD4.out.mono ?_; rintro e w4 ⟨rfl, hI4, hb4⟩
        have HI4 := Lib.hid hI4
        have HB4 := Lib.hid (HB3.out.trans hb4)
        clear hI4 hb4
        go_wp2_with fail
        go_ret
        exact ⟨ret_bool (by rw [← HV.out]), by rw [← HV.out]; exact HI4.out, HB4.out⟩
      simp only [if_true] at hx
      go_wp2_with fail
      refine HD4.out.mono ?_; rintro e w4 ⟨rfl, hI4, hb4⟩
      have hB4 := HB3.out.trans hb4
      have hD5 := HC5.out s4 w4 hI4 (HB0.out.trans hB4)
      have e4 := ((HB0.out.trans hB4).cell hblt).trans HE4.out
      have HB4 := Lib.hid hB4
      clear hI4 hb4 hB4
      generalize run g s4 (nB t.els (d + 1)) = r5 at hD5 hx
      generalize t.els.length = m4 at hD5 e4
      have HD5 := Lib.hid hD5
      clear hD5
      obtain ⟨s5, y5⟩ := r5
      cases y5
      · simp only [Bool.false_eq_true, if_false] at hx
        have HV := Lib.hid hx
        clear hx
        go_wp2_with fail
        refine HD5.out.mono ?_; rintro e w5 ⟨rfl, hI5, hb5⟩
        have HI5 := Lib.hid hI5
        have HB5 := Lib.hid (HB4.out.trans hb5)
        clear hI5 hb5
        go_wp2_with fail
        go_ret
        exact ⟨ret_bool (by rw [← HV.out]), by rw [← HV.out]; exact HI5.out, HB5.out⟩
      simp only [if_true] at hx
      have HN := Lib.hid hx
      clear hx
      go_wp2_with fail
      refine HD5.out.mono ?_; rintro e w5 ⟨rfl, hI5, hb5⟩
      have HI5 := Lib.hid hI5
      have HB5 := Lib.hid (HB4.out.trans hb5)
      clear hI5 hb5
      go_wp2_with fail
      go_roundw
      case rel => exact ⟨k + 1, s5, by omega, by go_num, HN, HI5, HB5⟩
      case measure => simp [intOf]; omega
    · have HV : Hid (R = (sk, true)) := by
        show _ = _
        rw [← HX.out, List.drop_of_length_le (by rw [HL.out]; omega), nB, run_nil]
      go_wp2_with fail
      go_ret
      exact ⟨ret_bool (by rw [HV.out]), by rw [HV.out]; exact HI.out, HB.out⟩
end
end Go.Proofs.YtnelpgeiioflmaaGreatDoor.A
