/-
  Plain mathematics of layer 8: the walk as the program makes it: nodes with their depths, visited by a step that may end the walk; what each of the program's steps leaves.
  The program's walk of layer 8: what a step does that is called for each node; walkExpr of the program, as ValidExpr calls it; ValidExpr.
  The program's walk of layer 8: walkField, walkStmts: contracts, whatever step is called for each node.
  The program's function walk of layer 8, for each function value that it is called with: what walk leaves is what the steps leave, node by node.
-/
import Derived.Test.YtkjefigebdbkaaaDoorTAFacts
import Derived.Laws.BitsLemmas
import Derived.Test.YtkjefigebdbkaaaDoorN06
namespace Go.Proofs.YtkjefigebdbkaaaDoor.A
open L (Str isName prt)

/-- a node, as the program visits it -/
inductive U where
  | st (s : St) (d : Nat)
  | ex (e : Ex) (d : Nat)
mutual
def nE : Ex → Nat → List U
  | .mk o n s l, d => .ex (.mk o n s l) d :: nEs l (d + 1)
def nEs : List Ex → Nat → List U
  | [], _ => []
  | e :: r, d => nE e d ++ nEs r d
end
def nR (e : Ex) : List U := if absent e then [] else nE e 1
mutual
def nS : St → Nat → List U
  | .mk o nm mx a b bd el, d => .st (.mk o nm mx a b bd el) d :: (nR a ++ (nR b ++ (nB bd (d + 1) ++ nB el (d + 1))))
def nB : List St → Nat → List U
  | [], _ => []
  | s :: r, d => nS s d ++ nB r d
end
def U.v : U → V | .st s d => .st s d | .ex e d => .ex e (decide (d = 1))
mutual
theorem nE_v : ∀ (e : Ex) (d : Nat), 1 ≤ d → (nE e d).map U.v = preE e (decide (d = 1))
  | .mk o n s l, d, h => by rw [nE, preE, List.map_cons, nEs_v l (d + 1) (by omega)]; rfl
theorem nEs_v : ∀ (l : List Ex) (d : Nat), 2 ≤ d → (nEs l d).map U.v = preEs l
  | [], _, _ => rfl
  | e :: r, d, h => by rw [nEs, preEs, List.map_append, nE_v e d (by omega), nEs_v r d h, decide_eq_false (by omega)]
end
theorem nR_v (e : Ex) : (nR e).map U.v = preR e := by
  unfold nR preR
  split
  · rfl
  · exact nE_v e 1 (Nat.le_refl _)
mutual
theorem nS_v : ∀ (s : St) (d : Nat), (nS s d).map U.v = preS s d
  | .mk o nm mx a b bd el, d => by
    rw [nS, preS, List.map_cons, List.map_append, List.map_append, List.map_append, nR_v, nR_v, nB_v bd, nB_v el]
    simp only [List.append_assoc, U.v]
theorem nB_v : ∀ (l : List St) (d : Nat), (nB l d).map U.v = preB l d
  | [], _ => rfl
  | s :: r, d => by rw [nB, preB, List.map_append, nS_v s d, nB_v r d]
end
theorem nS_parts (s : St) (d : Nat) : nS s d = .st s d :: (nR s.a ++ (nR s.b ++ (nB s.body (d + 1) ++ nB s.els (d + 1)))) := by
  obtain ⟨o, nm, mx, a, b, bd, el⟩ := s
  rw [nS]; rfl
/-- the walk of a procedure, as the program visits it -/
def walkU (p : Pr) : List U := (nB p.body 1).take 401
theorem walkU_v (p : Pr) : (walkU p).map U.v = walk p := by
  unfold walkU walk
  rw [List.map_take, nB_v]
theorem walkU_len (p : Pr) : (walkU p).length ≤ 401 := by unfold walkU; rw [List.length_take]; omega

/-! ### visiting -/

section
variable {σ : Type}
def run (g : σ → U → σ × Bool) : σ → List U → σ × Bool
  | s, [] => (s, true)
  | s, u :: r => if (g s u).2 = true then run g (g s u).1 r else ((g s u).1, false)
theorem run_nil (g : σ → U → σ × Bool) (s : σ) : run g s [] = (s, true) := rfl
theorem run_cons (g : σ → U → σ × Bool) (s : σ) (u : U) (r : List U) : run g s (u :: r) = if (g s u).2 = true then run g (g s u).1 r else ((g s u).1, false) := rfl
theorem run_true {g : σ → U → σ × Bool} {s : σ} {u : U} (h : (g s u).2 = true) (r : List U) : run g s (u :: r) = run g (g s u).1 r := by rw [run_cons, if_pos h]
theorem run_app (g : σ → U → σ × Bool) : ∀ (a b : List U) (s : σ), run g s (a ++ b) = if (run g s a).2 = true then run g (run g s a).1 b else ((run g s a).1, false)
  | [], b, s => by simp [run]
  | u :: r, b, s => by
    rw [List.cons_append, run, run]
    by_cases h : (g s u).2 = true
    · rw [if_pos h, if_pos h, run_app g r b]
    · rw [if_neg h, if_neg h]
      simp
/-- the program counts the nodes that it visits, and stops behind the limit -/
def cnt (g : σ → U → σ × Bool) (x : Int × σ) (u : U) : (Int × σ) × Bool := ((IntKind.i64.wrap (x.1 + 1), (g x.2 u).1), (g x.2 u).2 && decide (IntKind.i64.wrap (x.1 + 1) ≤ 400))
theorem wrap_small {n : Int} (h0 : 0 ≤ n) (h1 : n ≤ 1000000) : IntKind.i64.wrap n = n := by
  rw [IntKind.wrap_i64]
  omega
theorem run_cnt (g : σ → U → σ × Bool) : ∀ (l : List U) (k : Nat) (s : σ), k ≤ 400 → (run (cnt g) ((k : Int), s) l).1.2 = (run g s (l.take (401 - k))).1
  | [], k, s, _ => by simp [run]
  | u :: r, k, s, hk => by
    have hw : IntKind.i64.wrap ((k : Int) + 1) = ((k + 1 : Nat) : Int) := by rw [wrap_small (by omega) (by omega)]; rfl
    obtain ⟨m, hm⟩ : ∃ m, 401 - k = m + 1 := ⟨400 - k, by omega⟩
    rw [hm, List.take_succ_cons, run, run]
    cases hg : (g s u).2
    · rw [if_neg (by unfold cnt; simp [hg]), if_neg (by simp)]
      rfl
    · rw [if_pos rfl]
      by_cases h4 : k + 1 ≤ 400
      · rw [if_pos (by unfold cnt; simp only [hg, hw, Bool.true_and, decide_eq_true_eq]; omega)]
        have := run_cnt g r (k + 1) (g s u).1 h4
        rw [show 401 - (k + 1) = m by omega] at this
        rw [← this]
        unfold cnt
        simp only [hw]
      · rw [if_neg (by unfold cnt; simp only [hg, hw, Bool.true_and, decide_eq_true_eq]; omega)]
        obtain rfl : m = 0 := by omega
        rfl
end
theorem run_walk {σ : Type} (g : σ → U → σ × Bool) (s : σ) (p : Pr) : (run (cnt g) (0, s) (nB p.body 1)).1.2 = (run g s (walkU p)).1 := run_cnt g _ 0 s (by omega)

/-! ### the steps -/

def gN (z : Int) (_ : U) : Int × Bool := (IntKind.i64.wrap (z + 1), true)
theorem run_N : ∀ (l : List U) (n : Nat), n + l.length ≤ 1000000 → (run gN (n : Int) l).1 = ((n + l.length : Nat) : Int)
  | [], n, _ => rfl
  | u :: r, n, h => by
    rw [List.length_cons] at h ⊢
    rw [run_true rfl]
    show (run gN (IntKind.i64.wrap ((n : Int) + 1)) r).1 = _
    rw [wrap_small (by omega) (by omega), show (n : Int) + 1 = ((n + 1 : Nat) : Int) by omega, run_N r (n + 1) (by omega)]
    congr 1; omega
theorem nodes_run (p : Pr) : (run gN 0 (walkU p)).1 = (nodes p : Int) := by
  have := run_N (walkU p) 0 (by have := walkU_len p; omega)
  rw [Nat.zero_add] at this
  unfold nodes
  rw [← walkU_v, List.length_map]
  exact this
def gV (z : Int) (u : U) : Int × Bool := match u with | .st s d => (stE s d, decide (stE s d = 0)) | .ex _ _ => (z, decide (z = 0))
theorem run_V : ∀ l : List U, (run gV 0 l).1 = firstE (l.map U.v)
  | [] => rfl
  | .st s d :: r => by
    rw [run, List.map_cons, U.v, firstE]
    show (if decide (stE s d = 0) = true then run gV (stE s d) r else (stE s d, false)).1 = _
    by_cases h : stE s d = 0
    · rw [if_pos (decide_eq_true h), if_neg (fun x => x h), h]
      exact run_V r
    · rw [if_neg (by rw [decide_eq_false h]; decide), if_pos h]
  | .ex e d :: r => by
    rw [run, List.map_cons, U.v, firstE]
    exact run_V r
theorem first_run (p : Pr) : (run gV 0 (walkU p)).1 = firstE (walk p) := by rw [run_V, walkU_v]
def declU (u : U) : List ByteArray := match u with | .st s _ => if s.op = 1 ∨ s.op = 6 then [s.name] else [] | .ex _ _ => []
def gM (l : List ByteArray) (u : U) : List ByteArray × Bool := (l ++ declU u, true)
theorem run_M : ∀ (l : List U) (m : List ByteArray), (run gM m l).1 = m ++ (l.map U.v).filterMap V.decl
  | [], m => by simp [run]
  | .ex e d :: r, m => by
    rw [run_true rfl, List.map_cons, U.v, List.filterMap_cons]
    show (run gM (m ++ []) r).1 = _
    rw [List.append_nil]
    exact run_M r m
  | .st s d :: r, m => by
    rw [run_true rfl, List.map_cons, U.v, List.filterMap_cons]
    by_cases h : s.op = 1 ∨ s.op = 6
    · have h1 : V.decl (.st s d) = some s.name := by show (if s.op = 1 ∨ s.op = 6 then some s.name else none) = _; rw [if_pos h]
      have h2 : (gM m (U.st s d)).1 = m ++ [s.name] := by show m ++ (if s.op = 1 ∨ s.op = 6 then [s.name] else []) = _; rw [if_pos h]
      rw [h1, h2, run_M r, List.append_assoc]; rfl
    · have h1 : V.decl (.st s d) = none := by show (if s.op = 1 ∨ s.op = 6 then some s.name else none) = _; rw [if_neg h]
      have h2 : (gM m (U.st s d)).1 = m := by show m ++ (if s.op = 1 ∨ s.op = 6 then [s.name] else []) = _; rw [if_neg h, List.append_nil]
      rw [h1, h2]; exact run_M r m
theorem names_run (p : Pr) : (run gM (p.params.map Pm.name) (walkU p)).1 = names p := by rw [run_M, walkU_v]; rfl
def gE (z : Int) (u : U) : Int × Bool := match u with | .st _ _ => (z, false) | .ex e d => (nodeE e d, decide (nodeE e d = 0))
mutual
theorem run_E : ∀ (e : Ex) (d : Nat) (z : Int), run gE z (nE e d) = (vE e d, decide (vE e d = 0))
  | .mk o n s l, d, z => by
    rw [nE, run, vE]
    show (if decide (nodeE (.mk o n s l) d = 0) = true then run gE (nodeE (.mk o n s l) d) (nEs l (d + 1)) else (nodeE (.mk o n s l) d, false)) = _
    by_cases h : nodeE (.mk o n s l) d = 0
    · rw [if_pos (decide_eq_true h), if_neg (fun x => x h), h, run_Es l (d + 1)]
    · rw [if_neg (by rw [decide_eq_false h]; decide), if_pos h, decide_eq_false h]
theorem run_Es : ∀ (l : List Ex) (d : Nat), run gE 0 (nEs l d) = (vEs l d, decide (vEs l d = 0))
  | [], _ => rfl
  | e :: r, d => by
    rw [nEs, run_app, run_E e d, vEs]
    by_cases h : vE e d = 0
    · simp only [h, decide_true, if_true]
      rw [if_neg (by simp), run_Es r d]
    · rw [if_neg (by simp only [decide_eq_false h]; decide), if_pos h, decide_eq_false h]
end
/-! ### lists of nodes, from an index on -/
theorem nEs_drop {l : List Ex} {k : Nat} (h : k < l.length) (d : Nat) : nEs (l.drop k) d = nE l[k] d ++ nEs (l.drop (k + 1)) d := by
  rw [List.drop_eq_getElem_cons h, nEs]
theorem nB_drop {l : List St} {k : Nat} (h : k < l.length) (d : Nat) : nB (l.drop k) d = nS l[k] d ++ nB (l.drop (k + 1)) d := by
  rw [List.drop_eq_getElem_cons h, nB]
/-! ### sizes -/
theorem cEs_get : ∀ {l : List Ex} {k : Nat} (h : k < l.length), cE l[k] ≤ cEs l
  | e :: r, 0, _ => by rw [cEs]; simp
  | e :: r, k + 1, h => by
    rw [cEs]
    have := cEs_get (l := r) (k := k) (by simpa using h)
    simp only [List.getElem_cons_succ]
    omega
theorem cB_get : ∀ {l : List St} {k : Nat} (h : k < l.length), cS l[k] ≤ cB l
  | e :: r, 0, _ => by rw [cB]; simp
  | e :: r, k + 1, h => by
    rw [cB]
    have := cB_get (l := r) (k := k) (by simpa using h)
    simp only [List.getElem_cons_succ]
    omega
end Go.Proofs.YtkjefigebdbkaaaDoor.A
namespace Go.Proofs.YtkjefigebdbkaaaDoor.A
open Go.RowKit
open L (Str isName prt size_len below_2 below_box ret_bool ret_int eql_eq bytes_eq)

/-- a node as the program hands it to a step -/
def nodeV (ps pe : Option Addr) (d : Nat) : Value := .agg #[.pointer ps, .pointer pe, .int .i64 (d : Int)]
def U.d : U → Nat | .st _ d => d | .ex _ d => d
/-- where a node lies -/
def UAt (w : World) : U → Option Addr → Option Addr → Prop
  | .st s _, ps, pe => ∃ b i, ps = some ⟨b, i, none⟩ ∧ pe = none ∧ StAt w s b i
  | .ex e _, ps, pe => ∃ b i, ps = none ∧ pe = some ⟨b, i, none⟩ ∧ ExAt w e b i
/-- what the reach gives of a node -/
def UOk : U → Prop
  | .st s d => okS s ∧ d + cS s ≤ 1000000
  | .ex e d => okE e ∧ d + cE e ≤ 1000000
/-- the step of ValidExpr -/
structure StepA {σ : Type} (p1 : Addr) (g : σ → U → σ × Bool) (w0 : World) (I : σ → World → Prop) : Prop where
  call : ∀ (s : σ) (e : Ex) (d b i : Nat) (w : World), I s w → Below w0.heap.size w0 w → ExAt w0 e b i → okE e → d + cE e ≤ 1000000 →
    Calls Tryd.prog 81 #[nodeV none (some ⟨b, i, none⟩) d, .pointer (some p1)] w fun e' w' => e' = .returned (.bool (g s (.ex e d)).2) ∧ I (g s (.ex e d)).1 w' ∧ Below w0.heap.size w w'
/-- the step of walk -/
structure StepB {σ : Type} (p1 p2 : Addr) (g : σ → U → σ × Bool) (w0 : World) (I : σ → World → Prop) : Prop where
  call : ∀ (s : σ) (u : U) (ps pe : Option Addr) (w : World), I s w → Below w0.heap.size w0 w → UAt w0 u ps pe → UOk u →
    Calls Tryd.prog 104 #[nodeV ps pe u.d, .pointer (some p1), .pointer (some p2)] w fun e w' => e = .returned (.bool (g s u).2) ∧ I (g s u).1 w' ∧ Below w0.heap.size w w'
/-- what a call leaves that visits nodes -/
def GivesR {σ : Type} (w0 : World) (I : σ → World → Prop) (r : σ × Bool) (w : World) (e' : Ending) (w' : World) : Prop := e' = .returned (.bool r.2) ∧ I r.1 w' ∧ Below w0.heap.size w w'
section
variable {σ : Type} {g : σ → U → σ × Bool} {w0 : World} {I : σ → World → Prop}
def QA (p1 : Addr) (g : σ → U → σ × Bool) (w0 : World) (I : σ → World → Prop) (e : Ex) : Prop := ∀ (d b i : Nat) (s : σ) (w : World), okE e → d + cE e ≤ 1000000 → ExAt w0 e b i → I s w → Below w0.heap.size w0 w →
  Calls Tryd.prog 80 #[.pointer (some ⟨b, i, none⟩), .int .i64 (d : Int), .func (Fn.func 81) #[] #[.pointer (some p1)]] w fun e' w' => GivesR w0 I (run g s (nE e d)) w e' w'
set_option maxHeartbeats 4000000 in
set_option maxRecDepth 100000 in
theorem owalkExprA_any {p1 : Addr} (H : StepA p1 g w0 I) : ∀ e, QA p1 g w0 I e := by
  refine Ex.ind (P := QA p1 g w0 I) ?_
  intro o n t l ih d b i s w hok hsz hat hI hb0
  have HC := Lib.hid (H.call s (.mk o n t l) d b i w hI hb0 hat hok hsz)
  have hsz2 : d + (1 + t.size / 64 + cEs l) ≤ 1000000 := by rw [cE] at hsz; exact hsz
  have hd : d ≤ 1000000 := by omega
  obtain ⟨_, hl, hoks⟩ := okE_open hok
  obtain ⟨a, c, hf, hK⟩ := hat.four
  have HK : Hid (Kids w0 a l) := hK
  have HF : Hid (w0.cell? ⟨b, i + 3, none⟩ = some (.slice a l.length c)) := hf.k3
  have hblt := hat.lt
  have HIH := Lib.hid ih
  have HOK := Lib.hid hoks
  have HB0 := Lib.hid hb0
  have HS : Hid (∀ k (h : k < l.length), (d + 1) + cE l[k] ≤ 1000000) := fun k h => by have := cEs_get h; omega
  rw [nE, run_cons]
  obtain ⟨⟨s1, y⟩, hg⟩ : ∃ r, g s (.ex (.mk o n t l) d) = r := ⟨_, rfl⟩
  rw [hg] at HC ⊢
  simp only [nodeV] at HC
  clear hg hok hsz hsz2 hat hf hK ih hoks hb0 hI
  cases y
  · simp only [Bool.false_eq_true, if_false]
    go_enter Tryd.func80, Tryd.ntmps80
    go_wp2_with fail
    refine HC.out.mono ?_; rintro e w1 ⟨rfl, hI1, hb1⟩
    have HI1 := Lib.hid hI1
    have HB1 := Lib.hid hb1
    clear hI1 hb1
    go_wp2_with fail
    go_ret
    exact ⟨rfl, HI1.out, HB1.out⟩
  · simp only [if_true]
    obtain ⟨R, hR⟩ : ∃ R, run g s1 (nEs l (d + 1)) = R := ⟨_, rfl⟩
    rw [hR]
    have HR : Hid (run g s1 (nEs (l.drop 0) (d + 1)) = R) := hR
    obtain ⟨m, hm⟩ : ∃ m, l.length = m := ⟨_, rfl⟩
    have HL := Lib.hid hm
    rw [hm] at HF hl
    clear hR hm
    go_enter Tryd.func80, Tryd.ntmps80
    go_wp2_with fail
    refine HC.out.mono ?_; rintro e w1 ⟨rfl, hI1, hb1⟩
    have HI1 := Lib.hid hI1
    have HB1 := Lib.hid hb1
    have k3 := ((HB0.out.trans hb1).cell hblt).trans HF.out
    clear hI1 hb1
    go_wp2_with fail
    go_loopw [19] (fun s19 wr => ∃ (k : Nat) (sk : σ), k ≤ m ∧ s19 = .int .i64 k ∧ Hid (run g sk (nEs (l.drop k) (d + 1)) = R) ∧ Hid (I sk wr) ∧ Hid (Below w0.heap.size w wr)) (fun s19 _ => m - (intOf s19).toNat)
    case atStart => exact ⟨0, s1, Nat.zero_le _, rfl, HR, HI1, HB1⟩
    case round =>
      obtain ⟨k, sk, hk, rfl, HX, HI, HB⟩ := hrel
      have hbr := HB0.out.trans HB.out
      by_cases hlt : k < m
      · have hlx : k < l.length := by rw [HL.out]; exact hlt
        have hx := HX.out
        rw [nEs_drop hlx, run_app] at hx
        have f3 := (hbr.cell hblt).trans HF.out
        obtain ⟨b2, i2, rfl, hat⟩ := HK.out.open hlx
        have HY := Lib.hid (HIH.out k hlx (d + 1) b2 (i2 + k * 4) sk wr (HOK.out.get k hlx) (HS.out k hlx) hat HI.out hbr)
        simp only [Int.natCast_add, Int.natCast_one] at HY
        generalize run g sk (nE l[k] (d + 1)) = r at HY hx
        obtain ⟨s2, y⟩ := r
        clear hat hbr
        cases y
        · simp only [Bool.false_eq_true, if_false] at hx
          have HV := Lib.hid hx
          clear hx
          go_wp2_with fail
          refine HY.out.mono ?_; rintro e w2 ⟨rfl, hI2, hb2⟩
          have HI2 := Lib.hid hI2
          have HB2 := Lib.hid (HB.out.trans hb2)
          clear hI2 hb2
          go_wp2_with fail
          go_ret
          exact ⟨ret_bool (by rw [← HV.out]), by rw [← HV.out]; exact HI2.out, HB2.out⟩
        · simp only [if_true] at hx
          have HN := Lib.hid hx
          clear hx
          go_wp2_with fail
          refine HY.out.mono ?_; rintro e w2 ⟨rfl, hI2, hb2⟩
          have HI2 := Lib.hid hI2
          have HB2 := Lib.hid (HB.out.trans hb2)
          clear hI2 hb2
          go_wp2_with fail
          go_roundw
          case rel => exact ⟨k + 1, s2, by omega, by go_num, HN, HI2, HB2⟩
          case measure => simp [intOf]; omega
      · have HV : Hid (R = (sk, true)) := by
          show _ = _
          rw [← HX.out, List.drop_of_length_le (by rw [HL.out]; omega), nEs, run_nil]
        go_wp2_with fail
        go_ret
        exact ⟨ret_bool (by rw [HV.out]), by rw [HV.out]; exact HI.out, HB.out⟩
end

/-! ### ValidExpr -/

/-- block N holds a variable that may be written -/
structure Cell1 (N : Nat) (v : Value) (w : World) : Prop where
  lt : N < w.heap.size
  cell : w.cell? ⟨N, 0, none⟩ = some v
  free : w.frozen? ⟨N, 0, none⟩ = false
theorem Cell1.below {N B : Nat} {v : Value} {w w' : World} (h : Cell1 N v w) (hb : Below B w w') (hB : N < B) : Cell1 N v w' :=
  ⟨Nat.lt_of_lt_of_le h.lt hb.size, (hb.cell (by exact hB)).trans h.cell, (hb.frozen (by exact hB)).trans h.free⟩
theorem Cell1.later {N : Nat} {v : Value} {w w' : World} (h : Cell1 N v w) (hb : Below w.heap.size w w') : Cell1 N v w' := h.below hb h.lt
theorem Cell1.set {N : Nat} {v u : Value} {w : World} (h : Cell1 N v w) : Cell1 N u (w.setCell ⟨N, 0, none⟩ u) := by
  obtain ⟨h1, h2, h3⟩ := h
  exact ⟨by simpa using h1, by go_simp, by go_simp⟩
theorem cell1_at {N : Nat} {v : Value} {t : TypeId} {w : World} (h : w.heap.size = N) : Cell1 N v (w.alloc (.cells #[v] t)) := by
  subst h
  exact ⟨by simp, by go_simp, by go_simp⟩
theorem below_b {w w1 w2 w3 : World} (h : Below w.heap.size w w1) (h2 : Below w1.heap.size w1 w2) (h3 : Below w1.heap.size w2 w3) : Below w.heap.size w w3 := (below_2 h h2).trans (h3.mono h.size)
theorem exAt_box {w : World} {e : Ex} {a : Option Addr} {c : Nat} (hK : Kids w a e.args) : ExAt (w.alloc (exO e a c)) e w.heap.size 0 := by
  obtain ⟨h0, h1, h2, h3⟩ := exO_cells w e a c
  have hk := hK.below (below_box w (exO e a c))
  obtain ⟨o, n, s, l⟩ := e
  rw [ExAt]
  exact ⟨h0, h1, h2, a, c, h3, hk⟩
set_option maxHeartbeats 2000000 in
set_option maxRecDepth 100000 in
theorem stepE {w0 : World} {N : Nat} (hN : w0.heap.size ≤ N) : StepA ⟨N, 0, none⟩ gE w0 (fun z w => Cell1 N (.int .i64 z) w) := by
  refine ⟨fun z e d b i w hI hb0 hat hok hsz => ?_⟩
  obtain ⟨a, c, hf, _⟩ := hat.four
  have hat2 := hat.below hb0
  obtain ⟨a, c, hf, _⟩ := hat2.four
  have hd : d ≤ 1000000 := by omega
  have hw := below_box w (.cells #[.pointer none, .pointer (some ⟨b, i, none⟩), .int .i64 (d : Int)] 111)
  have HC := Lib.hid (oexprError_any e b i a c d hd _ (hf.below hw))
  have HI := Lib.hid (hI.later hw)
  have HW := Lib.hid hw
  have HZ := Lib.hid hb0.size
  have HV : Hid (gE z (.ex e d) = (nodeE e d, (nodeE e d == 0))) := by
    show (nodeE e d, decide (nodeE e d = 0)) = _
    rw [Bool.beq_eq_decide_eq]
  rw [HV.out]
  unfold nodeV
  generalize nodeE e d = x at HC ⊢
  clear hI hf hat hat2 hok hsz hw HV hb0
  go_enter Tryd.func81, Tryd.ntmps81
  go_wp2_with fail
  refine HC.out.mono ?_; rintro e' w2 ⟨rfl, hb⟩
  have HI2 := Lib.hid (HI.out.later hb)
  have HB : Hid (Below w0.heap.size w w2) := (below_2 HW.out hb).mono HZ.out
  obtain ⟨j1, j2, j3⟩ := HI2.out
  clear hb
  go_wp2_with fail
  go_ret
  exact ⟨rfl, HI2.out.set, HB.out.setCell hN _⟩
end Go.Proofs.YtkjefigebdbkaaaDoor.A
namespace Go.Proofs.YtkjefigebdbkaaaDoor.A
open Go.RowKit
open L (Str isName prt size_len below_2 below_box ret_bool ret_int eql_eq bytes_eq)

theorem StAt.parts {w : World} {s : St} {b i : Nat} (h : StAt w s b i) : ExAt w s.a b (i + 3) ∧ ExAt w s.b b (i + 7) ∧ (∃ a c, w.cell? ⟨b, i + 11, none⟩ = some (.slice a s.body.length c) ∧ Bodies w a s.body) ∧ (∃ a c, w.cell? ⟨b, i + 12, none⟩ = some (.slice a s.els.length c) ∧ Bodies w a s.els) := by
  obtain ⟨o, nm, mx, a, b', bd, el⟩ := s
  rw [StAt] at h
  obtain ⟨h0, h1, h2, h3, h4, ⟨a5, c5, h5, g5⟩, ⟨a6, c6, h6, g6⟩⟩ := h
  exact ⟨h3, h4, ⟨a5, c5, h5, g5⟩, ⟨a6, c6, h6, g6⟩⟩
theorem Cell1.moved {N : Nat} {v : Value} {w w' : World} (h : Cell1 N v w) (hk : w'.heap[N]? = w.heap[N]?) : Cell1 N v w' :=
  ⟨by
    have h1 := h.lt
    have h2 : w.heap[N]? = some w.heap[N] := Array.getElem?_eq_getElem h1
    rw [h2] at hk
    exact (Array.getElem?_eq_some_iff.1 hk).1, (World.cell?_of_block (w := w) hk).trans h.cell, (World.frozen?_of_block (w := w) hk).trans h.free⟩
theorem Cell1.moved2 {N : Nat} {v : Value} {w w' : World} (h : Cell1 N v w) (hk : w'.heap[N]? = w.heap[N]?) : Cell1 N v w' := h.moved hk
/-- the step of walk: what holds while it goes on (true), and where it ends (false) -/
structure StepW {σ : Type} (p1 p2 : Addr) (g : σ → U → σ × Bool) (w0 : World) (I : Bool → σ → World → Prop) : Prop where
  call : ∀ (s : σ) (u : U) (ps pe : Option Addr) (w : World), I true s w → Below w0.heap.size w0 w → UAt w0 u ps pe → UOk u →
    Calls Tryd.prog 104 #[nodeV ps pe u.d, .pointer (some p1), .pointer (some p2)] w fun e w' => e = .returned (.bool (g s u).2) ∧ I (g s u).2 (g s u).1 w' ∧ Below w0.heap.size w w'
def GivesW1 {σ : Type} (w0 : World) (I : Bool → σ → World → Prop) (r : σ × Bool) (w : World) (e' : Ending) (w' : World) : Prop := e' = .returned (.bool r.2) ∧ I r.2 r.1 w' ∧ Below w0.heap.size w w'
section
variable {σ : Type} {g : σ → U → σ × Bool} {w0 : World} {I : Bool → σ → World → Prop} {p1 p2 : Addr}
def QWx (p1 p2 : Addr) (g : σ → U → σ × Bool) (w0 : World) (I : Bool → σ → World → Prop) (e : Ex) : Prop := ∀ (d b i : Nat) (s : σ) (w : World), okE e → d + cE e ≤ 1000000 → ExAt w0 e b i → I true s w → Below w0.heap.size w0 w →
  Calls Tryd.prog 80 #[.pointer (some ⟨b, i, none⟩), .int .i64 (d : Int), .func (Fn.func 104) #[] #[.pointer (some p1), .pointer (some p2)]] w fun e' w' => GivesW1 w0 I (run g s (nE e d)) w e' w'
set_option maxHeartbeats 4000000 in
set_option maxRecDepth 100000 in
theorem owalkExprW_any {p1 p2 : Addr} (H : StepW p1 p2 g w0 I) : ∀ e, QWx p1 p2 g w0 I e := by
  refine Ex.ind (P := QWx p1 p2 g w0 I) ?_
  intro o n t l ih d b i s w hok hsz hat hI hb0
  have HC := Lib.hid (H.call s (.ex (.mk o n t l) d) none (some ⟨b, i, none⟩) w hI hb0 ⟨b, i, rfl, rfl, hat⟩ ⟨hok, hsz⟩)
  have hsz2 : d + (1 + t.size / 64 + cEs l) ≤ 1000000 := by rw [cE] at hsz; exact hsz
  have hd : d ≤ 1000000 := by omega
  obtain ⟨_, hl, hoks⟩ := okE_open hok
  obtain ⟨a, c, hf, hK⟩ := hat.four
  have HK : Hid (Kids w0 a l) := hK
  have HF : Hid (w0.cell? ⟨b, i + 3, none⟩ = some (.slice a l.length c)) := hf.k3
  have hblt := hat.lt
  have HIH := Lib.hid ih
  have HOK := Lib.hid hoks
  have HB0 := Lib.hid hb0
  have HS : Hid (∀ k (h : k < l.length), (d + 1) + cE l[k] ≤ 1000000) := fun k h => by have := cEs_get h; omega
  rw [nE, run_cons]
  obtain ⟨⟨s1, y⟩, hg⟩ : ∃ r, g s (.ex (.mk o n t l) d) = r := ⟨_, rfl⟩
  rw [hg] at HC ⊢
  simp only [nodeV, U.d] at HC
  clear hg hok hsz hsz2 hat hf hK ih hoks hb0 hI
  cases y
  · simp only [Bool.false_eq_true, if_false]
    go_enter Tryd.func80, Tryd.ntmps80
    go_wp2_with fail
    refine HC.out.mono ?_; rintro e w1 ⟨rfl, hI1, hb1⟩
    have HI1 := Lib.hid hI1
    have HB1 := Lib.hid hb1
    clear hI1 hb1
    go_wp2_with fail
    go_ret
    exact ⟨rfl, HI1.out, HB1.out⟩
  · simp only [if_true]
    obtain ⟨R, hR⟩ : ∃ R, run g s1 (nEs l (d + 1)) = R := ⟨_, rfl⟩
    rw [hR]
    have HR : Hid (run g s1 (nEs (l.drop 0) (d + 1)) = R) := hR
    obtain ⟨m, hm⟩ : ∃ m, l.length = m := ⟨_, rfl⟩
    have HL := Lib.hid hm
    rw [hm] at HF hl
    clear hR hm
    go_enter Tryd.func80, Tryd.ntmps80
    go_wp2_with fail
    refine HC.out.mono ?_; rintro e w1 ⟨rfl, hI1, hb1⟩
    have HI1 := Lib.hid hI1
    have HB1 := Lib.hid hb1
    have k3 := ((HB0.out.trans hb1).cell hblt).trans HF.out
    clear hI1 hb1
    go_wp2_with fail
    go_loopw [19] (fun s19 wr => ∃ (k : Nat) (sk : σ), k ≤ m ∧ s19 = .int .i64 k ∧ Hid (run g sk (nEs (l.drop k) (d + 1)) = R) ∧ Hid (I true sk wr) ∧ Hid (Below w0.heap.size w wr)) (fun s19 _ => m - (intOf s19).toNat)
    case atStart => exact ⟨0, s1, Nat.zero_le _, rfl, HR, HI1, HB1⟩
    case round =>
      obtain ⟨k, sk, hk, rfl, HX, HI, HB⟩ := hrel
      have hbr := HB0.out.trans HB.out
      by_cases hlt : k < m
      · have hlx : k < l.length := by rw [HL.out]; exact hlt
        have hx := HX.out
        rw [nEs_drop hlx, run_app] at hx
        have f3 := (hbr.cell hblt).trans HF.out
        obtain ⟨b2, i2, rfl, hat⟩ := HK.out.open hlx
        have HY := Lib.hid (HIH.out k hlx (d + 1) b2 (i2 + k * 4) sk wr (HOK.out.get k hlx) (HS.out k hlx) hat HI.out hbr)
        simp only [Int.natCast_add, Int.natCast_one] at HY
        generalize run g sk (nE l[k] (d + 1)) = r at HY hx
        obtain ⟨s2, y⟩ := r
        clear hat hbr
        cases y
        · simp only [Bool.false_eq_true, if_false] at hx
          have HV := Lib.hid hx
          clear hx
          go_wp2_with fail
          refine HY.out.mono ?_; rintro e w2 ⟨rfl, hI2, hb2⟩
          have HI2 := Lib.hid hI2
          have HB2 := Lib.hid (HB.out.trans hb2)
          clear hI2 hb2
          go_wp2_with fail
          go_ret
          exact ⟨ret_bool (by rw [← HV.out]), by rw [← HV.out]; exact HI2.out, HB2.out⟩
        · simp only [if_true] at hx
          have HN := Lib.hid hx
          clear hx
          go_wp2_with fail
          refine HY.out.mono ?_; rintro e w2 ⟨rfl, hI2, hb2⟩
          have HI2 := Lib.hid hI2
          have HB2 := Lib.hid (HB.out.trans hb2)
          clear hI2 hb2
          go_wp2_with fail
          go_roundw
          case rel => exact ⟨k + 1, s2, by omega, by go_num, HN, HI2, HB2⟩
          case measure => simp [intOf]; omega
      · have HV : Hid (R = (sk, true)) := by
          show _ = _
          rw [← HX.out, List.drop_of_length_le (by rw [HL.out]; omega), nEs, run_nil]
        go_wp2_with fail
        go_ret
        exact ⟨ret_bool (by rw [HV.out]), by rw [HV.out]; exact HI.out, HB.out⟩

set_option maxHeartbeats 2000000 in
set_option maxRecDepth 100000 in
theorem owalkField_any (H : StepW p1 p2 g w0 I) (e : Ex) (b i : Nat) (s : σ) (w : World) (hok : okE e) (hsz : 1 + cE e ≤ 1000000) (hat : ExAt w0 e b i) (hI : I true s w) (hb0 : Below w0.heap.size w0 w) :
    Calls Tryd.prog 132 #[.pointer (some ⟨b, i, none⟩), .func (Fn.func 104) #[] #[.pointer (some p1), .pointer (some p2)]] w fun e' w' => GivesW1 w0 I (run g s (nR e)) w e' w' := by
  obtain ⟨a, c, hf, _⟩ := (hat.below hb0).four
  have HA := Lib.hid (oabsent_any e b i a c w hf)
  have HC := Lib.hid (owalkExprW_any H e 1 b i s w hok hsz hat hI hb0)
  have HI := Lib.hid hI
  unfold nR
  by_cases hv : absent e = true
  · rw [hv] at HA
    rw [if_pos hv, run_nil]
    clear hI hb0 hat hf hok hsz hv HC
    go_enter Tryd.func132, Tryd.ntmps132
    go_wp2_with fail
    refine HA.out.mono ?_; rintro e' w1 ⟨rfl, rfl⟩
    go_wp2_with fail
    go_ret
    exact ⟨rfl, HI.out, Below.refl _ _⟩
  · rw [if_neg hv]
    rw [Bool.eq_false_iff.2 hv] at HA
    simp only [show ((1 : Nat) : Int) = 1 from rfl] at HC
    generalize run g s (nE e 1) = r at HC ⊢
    clear hI hb0 hat hf hok hsz hv
    go_enter Tryd.func132, Tryd.ntmps132
    go_wp2_with fail
    refine HA.out.mono ?_; rintro e' w1 ⟨rfl, rfl⟩
    go_wp2_with fail
    refine HC.out.mono ?_; rintro e' w1 ⟨rfl, h1, h2⟩
    have H1 := Lib.hid h1
    have H2 := Lib.hid h2
    clear h1 h2
    go_wp2_with fail
    go_ret
    exact ⟨rfl, H1.out, H2.out⟩
def QS (p1 p2 : Addr) (g : σ → U → σ × Bool) (w0 : World) (I : Bool → σ → World → Prop) (l : List St) : Prop := ∀ (a : Option Addr) (c d : Nat) (s : σ) (w : World), okB l → l.length ≤ 1000000000000000 → d + cB l ≤ 1000000 → Bodies w0 a l → I true s w → Below w0.heap.size w0 w →
  Calls Tryd.prog 103 #[.slice a l.length c, .int .i64 (d : Int), .func (Fn.func 104) #[] #[.pointer (some p1), .pointer (some p2)]] w fun e' w' => GivesW1 w0 I (run g s (nB l d)) w e' w'
set_option maxHeartbeats 8000000 in
set_option maxRecDepth 100000 in
theorem owalkStmts_any (H : StepW p1 p2 g w0 I) : ∀ l, QS p1 p2 g w0 I l := by
  refine body_ind fun l ih => ?_
  intro a c d s w hok hl hsz hK hI hb0
  have HK := Lib.hid hK
  have HIH := Lib.hid ih
  have HOK := Lib.hid hok
  have HB0 := Lib.hid hb0
  have HI0 := Lib.hid hI
  have HH := Lib.hid H
  have hd : d ≤ 1000000 := by omega
  have HS : Hid (∀ k (h : k < l.length), d + cS l[k] ≤ 1000000) := fun k h => by have := cB_get h; omega
  obtain ⟨R, hR⟩ : ∃ R, run g s (nB l d) = R := ⟨_, rfl⟩
  rw [hR]
  have HR : Hid (run g s (nB (l.drop 0) d) = R) := hR
  obtain ⟨m, hm⟩ : ∃ m, l.length = m := ⟨_, rfl⟩
  have HL := Lib.hid hm
  rw [hm] at hl ⊢
  clear hR hm hK ih hok hb0 hI hsz H
  go_enter Tryd.func103, Tryd.ntmps103
  go_wp2_with fail
  go_loopw [12] (fun s12 wr => ∃ (k : Nat) (sk : σ), k ≤ m ∧ s12 = .int .i64 k ∧ Hid (run g sk (nB (l.drop k) d) = R) ∧ Hid (I true sk wr) ∧ Hid (Below w0.heap.size w wr)) (fun s12 _ => m - (intOf s12).toNat)
  case atStart => exact ⟨0, s, Nat.zero_le _, rfl, HR, HI0, Below.refl _ _⟩
  case round =>
    obtain ⟨k, sk, hk, rfl, HX, HI, HB⟩ := hrel
    by_cases hlt : k < m
    · have hlx : k < l.length := by rw [HL.out]; exact hlt
      have hx := HX.out
      rw [nB_drop hlx, run_app, nS_parts, run_cons] at hx
      obtain ⟨b2, i2, rfl, hat⟩ := HK.out.open hlx
      have ho := okS_open (HOK.out.get k hlx)
      have ho2 := HOK.out.get k hlx
      have hs := HS.out k hlx
      obtain ⟨q1, q2⟩ := HIH.out k hlx
      generalize l[k] = t at hat ho ho2 hs q1 q2 hx
      have hsp := cS_parts t
      obtain ⟨hA, hBb, ⟨a3, c3, e3, hK3⟩, ⟨a4, c4, e4, hK4⟩⟩ := hat.parts
      have hblt := hat.lt
      have HC1 := Lib.hid (HH.out.call sk (.st t d) (some ⟨b2, i2 + k * 13, none⟩) none wr HI.out (HB0.out.trans HB.out) ⟨b2, i2 + k * 13, rfl, rfl, hat⟩ ⟨ho2, hs⟩)
      have HC2 := Lib.hid (fun s1 w1 h1 h2 => owalkField_any HH.out t.a b2 (i2 + k * 13 + 3) s1 w1 ho.a (by omega) hA h1 h2)
      have HC3 := Lib.hid (fun s1 w1 h1 h2 => owalkField_any HH.out t.b b2 (i2 + k * 13 + 7) s1 w1 ho.b (by omega) hBb h1 h2)
      have HC4 := Lib.hid (fun s1 w1 h1 h2 => q1 a3 c3 (d + 1) s1 w1 ho.body ho.bodyLen (by omega) hK3 h1 h2)
      have HC5 := Lib.hid (fun s1 w1 h1 h2 => q2 a4 c4 (d + 1) s1 w1 ho.els ho.elsLen (by omega) hK4 h1 h2)
      have HE3 := Lib.hid e3
      have HE4 := Lib.hid e4
      simp only [Int.natCast_add, Int.natCast_one, nodeV, U.d] at HC1 HC4 HC5
      clear hat ho ho2 hs q1 q2 hsp hA hBb hK3 hK4 e3 e4
      generalize g sk (.st t d) = r1 at HC1 hx
      obtain ⟨s1, y1⟩ := r1
      cases y1
      · simp only [Bool.false_eq_true, if_false] at hx
        have HV := Lib.hid hx
        clear hx
        go_wp2_with fail
        refine HC1.out.mono ?_; rintro e w1 ⟨rfl, hI1, hb1⟩
        have HI1 := Lib.hid hI1
        have HB1 := Lib.hid (HB.out.trans hb1)
        clear hI1 hb1
        go_wp2_with fail
        go_ret
        exact ⟨ret_bool (by rw [← HV.out]), by rw [← HV.out]; exact HI1.out, HB1.out⟩
      simp only [if_true] at hx
      rw [run_app] at hx
      go_wp2_with fail
      refine HC1.out.mono ?_; rintro e w1 ⟨rfl, hI1, hb1⟩
      have hB1 := HB.out.trans hb1
      have hD2 := HC2.out s1 w1 hI1 (HB0.out.trans hB1)
      have HB1 := Lib.hid hB1
      clear hI1 hb1 hB1
      generalize run g s1 (nR t.a) = r2 at hD2 hx
      have HD2 := Lib.hid hD2
      clear hD2
      obtain ⟨s2, y2⟩ := r2
      cases y2
      · simp only [Bool.false_eq_true, if_false] at hx
        have HV := Lib.hid hx
        clear hx
        go_wp2_with fail
        refine HD2.out.mono ?_; rintro e w2 ⟨rfl, hI2, hb2⟩
        have HI2 := Lib.hid hI2
        have HB2 := Lib.hid (HB1.out.trans hb2)
        clear hI2 hb2
        go_wp2_with fail
        go_ret
        exact ⟨ret_bool (by rw [← HV.out]), by rw [← HV.out]; exact HI2.out, HB2.out⟩
      simp only [if_true] at hx
      rw [run_app] at hx
      go_wp2_with fail
      refine HD2.out.mono ?_; rintro e w2 ⟨rfl, hI2, hb2⟩
      have hB2 := HB1.out.trans hb2
      have hD3 := HC3.out s2 w2 hI2 (HB0.out.trans hB2)
      have HB2 := Lib.hid hB2
      clear hI2 hb2 hB2
      generalize run g s2 (nR t.b) = r3 at hD3 hx
      have HD3 := Lib.hid hD3
      clear hD3
      obtain ⟨s3, y3⟩ := r3
      cases y3
      · simp only [Bool.false_eq_true, if_false] at hx
        have HV := Lib.hid hx
        clear hx
        go_wp2_with fail
        refine HD3.out.mono ?_; rintro e w3 ⟨rfl, hI3, hb3⟩
        have HI3 := Lib.hid hI3
        have HB3 := Lib.hid (HB2.out.trans hb3)
        clear hI3 hb3
        go_wp2_with fail
        go_ret
        exact ⟨ret_bool (by rw [← HV.out]), by rw [← HV.out]; exact HI3.out, HB3.out⟩
      simp only [if_true] at hx
      rw [run_app] at hx
      go_wp2_with fail
      refine HD3.out.mono ?_; rintro e w3 ⟨rfl, hI3, hb3⟩
      have hB3 := HB2.out.trans hb3
      have hD4 := HC4.out s3 w3 hI3 (HB0.out.trans hB3)
      have e3 := ((HB0.out.trans hB3).cell hblt).trans HE3.out
      have HB3 := Lib.hid hB3
      clear hI3 hb3 hB3
      generalize run g s3 (nB t.body (d + 1)) = r4 at hD4 hx
      generalize t.body.length = m3 at hD4 e3
      have HD4 := Lib.hid hD4
      clear hD4
      obtain ⟨s4, y4⟩ := r4
      cases y4
      · simp only [Bool.false_eq_true, if_false] at hx
        have HV := Lib.hid hx
        clear hx
        go_wp2_with fail
        refine HD4.out.mono ?_; rintro e w4 ⟨rfl, hI4, hb4⟩
        have HI4 := Lib.hid hI4
        have HB4 := Lib.hid (HB3.out.trans hb4)
        clear hI4 hb4
        go_wp2_with fail
        go_ret
        exact ⟨ret_bool (by rw [← HV.out]), by rw [← HV.out]; exact HI4.out, HB4.out⟩
      simp only [if_true] at hx
      go_wp2_with fail
      refine HD4.out.mono ?_; rintro e w4 ⟨rfl, hI4, hb4⟩
      have hB4 := HB3.out.trans hb4
      have hD5 := HC5.out s4 w4 hI4 (HB0.out.trans hB4)
      have e4 := ((HB0.out.trans hB4).cell hblt).trans HE4.out
      have HB4 := Lib.hid hB4
      clear hI4 hb4 hB4
      generalize run g s4 (nB t.els (d + 1)) = r5 at hD5 hx
      generalize t.els.length = m4 at hD5 e4
      have HD5 := Lib.hid hD5
      clear hD5
      obtain ⟨s5, y5⟩ := r5
      cases y5
      · simp only [Bool.false_eq_true, if_false] at hx
        have HV := Lib.hid hx
        clear hx
        go_wp2_with fail
        refine HD5.out.mono ?_; rintro e w5 ⟨rfl, hI5, hb5⟩
        have HI5 := Lib.hid hI5
        have HB5 := Lib.hid (HB4.out.trans hb5)
        clear hI5 hb5
        go_wp2_with fail
        go_ret
        exact ⟨ret_bool (by rw [← HV.out]), by rw [← HV.out]; exact HI5.out, HB5.out⟩
      simp only [if_true] at hx
      have HN := Lib.hid hx
      clear hx
      go_wp2_with fail
      refine HD5.out.mono ?_; rintro e w5 ⟨rfl, hI5, hb5⟩
      have HI5 := Lib.hid hI5
      have HB5 := Lib.hid (HB4.out.trans hb5)
      clear hI5 hb5
      go_wp2_with fail
      go_roundw
      case rel => exact ⟨k + 1, s5, by omega, by go_num, HN, HI5, HB5⟩
      case measure => simp [intOf]; omega
    · have HV : Hid (R = (sk, true)) := by
        show _ = _
        rw [← HX.out, List.drop_of_length_le (by rw [HL.out]; omega), nB, run_nil]
      go_wp2_with fail
      go_ret
      exact ⟨ret_bool (by rw [HV.out]), by rw [HV.out]; exact HI.out, HB.out⟩
end
end Go.Proofs.YtkjefigebdbkaaaDoor.A
namespace Go.Proofs.YtkjefigebdbkaaaDoor.A
open Go.RowKit
open L (Str isName prt size_len below_2 below_box ret_bool ret_int eql_eq bytes_eq)

/-- a step of walk, and what it keeps -/
structure VisX {σ : Type} (q1 : Addr) (g : σ → U → σ × Bool) (w0 : World) (J : Nat → (Nat → Prop) → σ → World → Prop) : Prop where
  call : ∀ (n : Nat) (X : Nat → Prop) (s : σ) (u : U) (ps pe : Option Addr) (w : World), n ≤ 400 → (∀ k, X k → w0.heap.size ≤ k ∧ k < w.heap.size) → J n X s w → Below w0.heap.size w0 w → UAt w0 u ps pe → UOk u →
    Calls Tryd.prog 112 #[nodeV ps pe u.d, .pointer (some q1)] w fun e w' => e = .returned (.bool (g s u).2) ∧ J (n + 1) X (g s u).1 w' ∧ Below w0.heap.size w w' ∧ (∀ k, X k → w'.heap[k]? = w.heap[k]?)
  keep : ∀ (n : Nat) (X : Nat → Prop) (s : σ) (w w' : World), J n X s w → w.heap.size ≤ w'.heap.size → (∀ k, k < w.heap.size → ¬ X k → w'.heap[k]? = w.heap[k]?) → J n X s w'
  wide : ∀ (n : Nat) (X : Nat → Prop) (s : σ) (w : World), J n (fun _ => False) s w → (∀ k, X k → w.heap.size ≤ k) → J n X s w
  narrow : ∀ (n : Nat) (X : Nat → Prop) (s : σ) (w : World), J n X s w → J n (fun _ => False) s w
/-- a step of walk, and what it keeps -/
structure VisM {σ : Type} (q1 : Addr) (g : σ → U → σ × Bool) (w0 : World) (J : Nat → (Nat → Prop) → σ → World → Prop) : Prop where
  call : ∀ (n : Nat) (X : Nat → Prop) (s : σ) (u : U) (ps pe : Option Addr) (w : World), n ≤ 400 → (∀ k, X k → w0.heap.size ≤ k ∧ k < w.heap.size) → J n X s w → Below w0.heap.size w0 w → UAt w0 u ps pe → UOk u →
    Calls Tryd.prog 73 #[nodeV ps pe u.d, .pointer (some q1)] w fun e w' => e = .returned (.bool (g s u).2) ∧ J (n + 1) X (g s u).1 w' ∧ Below w0.heap.size w w' ∧ (∀ k, X k → w'.heap[k]? = w.heap[k]?)
  keep : ∀ (n : Nat) (X : Nat → Prop) (s : σ) (w w' : World), J n X s w → w.heap.size ≤ w'.heap.size → (∀ k, k < w.heap.size → ¬ X k → w'.heap[k]? = w.heap[k]?) → J n X s w'
  wide : ∀ (n : Nat) (X : Nat → Prop) (s : σ) (w : World), J n (fun _ => False) s w → (∀ k, X k → w.heap.size ≤ k) → J n X s w
  narrow : ∀ (n : Nat) (X : Nat → Prop) (s : σ) (w : World), J n X s w → J n (fun _ => False) s w
set_option maxHeartbeats 2000000 in
set_option maxRecDepth 100000 in
theorem stepM {σ : Type} {q1 : Addr} {g : σ → U → σ × Bool} {w0 : World} {J : Nat → (Nat → Prop) → σ → World → Prop} (H : VisM q1 g w0 J) {N M : Nat} (hN : w0.heap.size ≤ N) (hM : w0.heap.size ≤ M) (hne : N ≠ M) :
    StepW ⟨N, 0, none⟩ ⟨M, 0, none⟩ (cnt g) w0 (fun b x w => Cell1 N (.int .i64 x.1) w ∧ Cell1 M (.func (Fn.func 73) #[] #[.pointer (some q1)]) w ∧ ∃ n : Nat, x.1 = (n : Int) ∧ (b = true → n ≤ 400) ∧ J n (fun k => k = N ∨ k = M) x.2 w) := by
  refine ⟨fun x u ps pe w hI hb0 hat hok => ?_⟩
  obtain ⟨z, s⟩ := x
  obtain ⟨hN1, hM1, n, hzn, hn, hJ⟩ := hI
  simp only at hN1 hM1 hJ hzn
  have hn4 := hn rfl
  obtain ⟨z2, hz⟩ : ∃ z2, IntKind.i64.wrap (z + 1) = z2 := ⟨_, rfl⟩
  have hz2 : z2 = ((n + 1 : Nat) : Int) := by rw [← hz, hzn, wrap_small (by omega) (by omega)]; rfl
  have hw := below_box w (.cells #[.pointer ps, .pointer pe, .int .i64 (u.d : Int)] 111)
  have hs : ((w.alloc (.cells #[.pointer ps, .pointer pe, .int .i64 (u.d : Int)] 111)).setCell ⟨N, 0, none⟩ (.int .i64 z2)).heap.size = (w.alloc (.cells #[.pointer ps, .pointer pe, .int .i64 (u.d : Int)] 111)).heap.size := by simp
  have hN2 := (hN1.later hw).set (u := .int .i64 z2)
  have hM2 : Cell1 M (.func (Fn.func 73) #[] #[.pointer (some q1)]) ((w.alloc (.cells #[.pointer ps, .pointer pe, .int .i64 (u.d : Int)] 111)).setCell ⟨N, 0, none⟩ (.int .i64 z2)) := by
    have h := hM1.later hw
    have hk : ((w.alloc (.cells #[.pointer ps, .pointer pe, .int .i64 (u.d : Int)] 111)).setCell ⟨N, 0, none⟩ (.int .i64 z2)).heap[M]? = (w.alloc (.cells #[.pointer ps, .pointer pe, .int .i64 (u.d : Int)] 111)).heap[M]? := Below.heap_setCell _ _ _ _ (by exact hne.symm)
    exact h.moved hk
  have hB2 := hb0.trans (((hw.mono hb0.size).setCell (p := ⟨N, 0, none⟩) hN (.int .i64 z2)))
  have hJ2 := H.keep n _ s w ((w.alloc (.cells #[.pointer ps, .pointer pe, .int .i64 (u.d : Int)] 111)).setCell ⟨N, 0, none⟩ (.int .i64 z2)) hJ (by rw [hs]; exact hw.size) (fun k hk hx => (Below.heap_setCell _ _ _ _ (fun e => hx (Or.inl e))).trans (hw.block k hk))
  have hC := H.call n _ s u ps pe _ hn4 (fun k hk => by
    rcases hk with rfl | rfl
    · exact ⟨hN, by rw [hs]; exact (hN1.later hw).lt⟩
    · exact ⟨hM, by rw [hs]; exact (hM1.later hw).lt⟩) hJ2 hB2 hat hok
  have HB : Hid (Below w0.heap.size w ((w.alloc (.cells #[.pointer ps, .pointer pe, .int .i64 (u.d : Int)] 111)).setCell ⟨N, 0, none⟩ (.int .i64 z2))) := (hw.mono hb0.size).setCell (p := ⟨N, 0, none⟩) hN (.int .i64 z2)
  have HV : Hid (cnt g (z, s) u = ((z2, (g s u).1), (g s u).2 && decide (z2 ≤ 400))) := by show _ = _; unfold cnt; simp only [hz]
  rw [HV.out]
  have HN2 := Lib.hid hN2
  have HM2 := Lib.hid hM2
  have HC := Lib.hid hC
  have hNw := hN1.later hw
  obtain ⟨n1, n2, n3⟩ := hNw
  have m2 := hM2.cell
  have n0 := hN1.cell
  have hnw : w.heap.size ≠ N := fun h => Nat.lt_irrefl _ (h ▸ hN1.lt)
  have hblk : ((w.alloc (.cells #[.pointer ps, .pointer pe, .int .i64 (u.d : Int)] 111)).setCell ⟨N, 0, none⟩ (.int .i64 z2)).heap[w.heap.size]? = (w.alloc (.cells #[.pointer ps, .pointer pe, .int .i64 (u.d : Int)] 111)).heap[w.heap.size]? := Below.heap_setCell _ _ _ _ (by exact hnw)
  have d0 := (World.cell?_of_block (a := ⟨w.heap.size, 0, none⟩) hblk).trans (show _ = some (.pointer ps) by go_simp)
  have d1 := (World.cell?_of_block (a := ⟨w.heap.size, 1, none⟩) hblk).trans (show _ = some (.pointer pe) by go_simp)
  have d2 := (World.cell?_of_block (a := ⟨w.heap.size, 2, none⟩) hblk).trans (show _ = some (.int .i64 (u.d : Int)) by go_simp)
  unfold nodeV at *
  generalize g s u = r at HC ⊢
  obtain ⟨s2, y⟩ := r
  simp only at HC ⊢
  have HZ2 := Lib.hid hz2
  clear hw hs hN2 hM2 hB2 hJ2 hC hN1 hM1 hJ hz2 hzn hn HV hat hok hb0 hblk hnw
  cases y
  · go_enter Tryd.func104, Tryd.ntmps104
    go_wp2_with fail
    refine HC.out.mono ?_; rintro e' w2 ⟨rfl, hJ2, hb2, hx⟩
    have HI : Hid (Cell1 N (.int .i64 z2) w2 ∧ Cell1 M (.func (Fn.func 73) #[] #[.pointer (some q1)]) w2 ∧ ∃ n' : Nat, z2 = (n' : Int) ∧ (false = true → n' ≤ 400) ∧ J n' (fun k => k = N ∨ k = M) s2 w2) := ⟨HN2.out.moved2 (hx N (Or.inl rfl)), HM2.out.moved2 (hx M (Or.inr rfl)), n + 1, HZ2.out, (fun hb => by cases hb), hJ2⟩
    have HB2 := Lib.hid (HB.out.trans hb2)
    clear hJ2 hb2 hx
    go_wp2_with fail
    go_ret
    exact ⟨rfl, HI.out, HB2.out⟩
  · obtain ⟨t, ht⟩ : ∃ t, decide (z2 ≤ 400) = t := ⟨_, rfl⟩
    rw [ht]
    have HT := Lib.hid ht
    go_enter Tryd.func104, Tryd.ntmps104
    go_wp2_with fail
    refine HC.out.mono ?_; rintro e' w2 ⟨rfl, hJ2, hb2, hx⟩
    have HI : Hid (Cell1 N (.int .i64 z2) w2 ∧ Cell1 M (.func (Fn.func 73) #[] #[.pointer (some q1)]) w2 ∧ ∃ n' : Nat, z2 = (n' : Int) ∧ ((true && t) = true → n' ≤ 400) ∧ J n' (fun k => k = N ∨ k = M) s2 w2) := ⟨HN2.out.moved2 (hx N (Or.inl rfl)), HM2.out.moved2 (hx M (Or.inr rfl)), n + 1, HZ2.out, (fun hb => by have := HT.out; rw [Bool.true_and] at hb; rw [hb] at this; have h4 := of_decide_eq_true this; have h5 := HZ2.out; omega), hJ2⟩
    have HB2 := Lib.hid (HB.out.trans hb2)
    have n4 := HI.out.1.cell
    clear hJ2 hb2 hx
    go_wp2_with fail
    go_ret
    exact ⟨rfl, HI.out, HB2.out⟩
set_option maxHeartbeats 2000000 in
set_option maxRecDepth 100000 in
theorem owalkM_any {σ : Type} {q1 : Addr} {g : σ → U → σ × Bool} {w0 : World} {J : Nat → (Nat → Prop) → σ → World → Prop} (H : VisM q1 g w0 J) (p : Pr) (a1 : Option Addr) (c1 : Nat) (a2 : Option Addr) (c2 : Nat) (hok : okB p.body) (hl : p.body.length ≤ 1000000000000000) (hsz : 1 + cB p.body ≤ 1000000) (hK : Bodies w0 a2 p.body)
    (s : σ) (w : World) (hJ : J 0 (fun _ => False) s w) (hb0 : Below w0.heap.size w0 w) :
    Calls Tryd.prog 65 #[prV p a1 c1 a2 c2, .func (Fn.func 73) #[] #[.pointer (some q1)]] w fun e' w' => e' = .returned (.tuple #[]) ∧ (∃ n', J n' (fun _ => False) (run g s (walkU p)).1 w') ∧ Below w0.heap.size w w' := by
  have hz := hb0.size
  have hw := below_2 (below_2 (below_box w (prO p a1 c1 a2 c2)) (below_box _ (.cells #[.func (Fn.func 73) #[] #[.pointer (some q1)]] 113))) (below_box _ (.cells #[.int .i64 0] 3))
  have hst := stepM H (N := w.heap.size + 2) (M := w.heap.size + 1) (by omega) (by omega) (by omega)
  have hJ2 := H.keep 0 _ s w (((w.alloc (prO p a1 c1 a2 c2)).alloc (.cells #[.func (Fn.func 73) #[] #[.pointer (some q1)]] 113)).alloc (.cells #[.int .i64 0] 3)) (H.wide 0 (fun k => k = w.heap.size + 2 ∨ k = w.heap.size + 1) s w hJ (fun k hk => by omega)) hw.size (fun k hk _ => hw.block k hk)
  have hN : Cell1 (w.heap.size + 2) (.int .i64 0) (((w.alloc (prO p a1 c1 a2 c2)).alloc (.cells #[.func (Fn.func 73) #[] #[.pointer (some q1)]] 113)).alloc (.cells #[.int .i64 0] 3)) := cell1_at (by simp)
  have hM : Cell1 (w.heap.size + 1) (.func (Fn.func 73) #[] #[.pointer (some q1)]) (((w.alloc (prO p a1 c1 a2 c2)).alloc (.cells #[.func (Fn.func 73) #[] #[.pointer (some q1)]] 113)).alloc (.cells #[.int .i64 0] 3)) := (cell1_at (by simp)).later (below_box _ _)
  have hB : Below w0.heap.size w _ := hw.mono hz
  have hC := owalkStmts_any hst p.body a2 c2 1 (0, s) _ hok hl hsz hK ⟨hN, hM, 0, rfl, fun _ => by omega, hJ2⟩ (hb0.trans hB)
  have HRW := Lib.hid (run_walk g s p)
  rw [← HRW.out]
  generalize run (cnt g) (0, s) (nB p.body 1) = r at hC ⊢
  have HC := Lib.hid hC
  have HB := Lib.hid hB
  have HNW : Hid (∀ n w2, J n (fun k => k = w.heap.size + 2 ∨ k = w.heap.size + 1) r.1.2 w2 → J n (fun _ => False) r.1.2 w2) := fun n w2 h => H.narrow _ _ _ _ h
  simp only [show ((1 : Nat) : Int) = 1 from rfl] at HC
  unfold prO at HC HB
  unfold prV
  clear hz hw hst hJ2 hN hM hB hC HRW hok hl hsz hK hJ hb0 H
  go_enter Tryd.func65, Tryd.ntmps65
  go_wp2_with fail
  refine HC.out.mono ?_; rintro e' w2 ⟨rfl, ⟨_, _, n3, _, _, hJ3⟩, hb2⟩
  have HJ3 := Lib.hid (HNW.out n3 w2 hJ3)
  have HB2 := Lib.hid (HB.out.trans hb2)
  clear hJ3 hb2
  go_wp2_with fail
  go_end0
  exact ⟨rfl, ⟨n3, HJ3.out⟩, HB2.out⟩
end Go.Proofs.YtkjefigebdbkaaaDoor.A
