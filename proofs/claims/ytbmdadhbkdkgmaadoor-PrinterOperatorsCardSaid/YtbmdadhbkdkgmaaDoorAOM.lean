/-
  Plain mathematics of layer 8: the walk as the program makes it: nodes with their depths, visited by a step that may end the walk; what each of the program's steps leaves.
-/
import Derived.Test.YtbmdadhbkdkgmaaDoorAFacts
import Derived.Laws.BitsLemmas
namespace Go.Proofs.YtbmdadhbkdkgmaaDoor.A
open L (Str isName prt)

/-- a node, as the program visits it -/
inductive U where
  | st (s : St) (d : Nat)
  | ex (e : Ex) (d : Nat)
mutual
def nE : Ex → Nat → List U
  | .mk o n s l, d => .ex (.mk o n s l) d :: nEs l (d + 1)
def nEs : List Ex → Nat → List U
  | [], _ => []
  | e :: r, d => nE e d ++ nEs r d
end
def nR (e : Ex) : List U := if absent e then [] else nE e 1
mutual
def nS : St → Nat → List U
  | .mk o nm mx a b bd el, d => .st (.mk o nm mx a b bd el) d :: (nR a ++ (nR b ++ (nB bd (d + 1) ++ nB el (d + 1))))
def nB : List St → Nat → List U
  | [], _ => []
  | s :: r, d => nS s d ++ nB r d
end
def U.v : U → V | .st s d => .st s d | .ex e d => .ex e (decide (d = 1))
mutual
theorem nE_v : ∀ (e : Ex) (d : Nat), 1 ≤ d → (nE e d).map U.v = preE e (decide (d = 1))
  | .mk o n s l, d, h => by rw [nE, preE, List.map_cons, nEs_v l (d + 1) (by omega)]; rfl
theorem nEs_v : ∀ (l : List Ex) (d : Nat), 2 ≤ d → (nEs l d).map U.v = preEs l
  | [], _, _ => rfl
  | e :: r, d, h => by rw [nEs, preEs, List.map_append, nE_v e d (by omega), nEs_v r d h, decide_eq_false (by omega)]
end
theorem nR_v (e : Ex) : (nR e).map U.v = preR e := by
  unfold nR preR
  split
  · rfl
  · exact nE_v e 1 (Nat.le_refl _)
mutual
theorem nS_v : ∀ (s : St) (d : Nat), (nS s d).map U.v = preS s d
  | .mk o nm mx a b bd el, d => by
    rw [nS, preS, List.map_cons, List.map_append, List.map_append, List.map_append, nR_v, nR_v, nB_v bd, nB_v el]
    simp only [List.append_assoc, U.v]
theorem nB_v : ∀ (l : List St) (d : Nat), (nB l d).map U.v = preB l d
  | [], _ => rfl
  | s :: r, d => by rw [nB, preB, List.map_append, nS_v s d, nB_v r d]
end
theorem nS_parts (s : St) (d : Nat) : nS s d = .st s d :: (nR s.a ++ (nR s.b ++ (nB s.body (d + 1) ++ nB s.els (d + 1)))) := by
  obtain ⟨o, nm, mx, a, b, bd, el⟩ := s
  rw [nS]; rfl
theorem nE_parts (e : Ex) (d : Nat) : nE e d = .ex e d :: nEs e.args (d + 1) := by
  obtain ⟨o, n, s, l⟩ := e
  rw [nE]; rfl
/-- the walk of a procedure, as the program visits it -/
def walkU (p : Pr) : List U := (nB p.body 1).take 401
theorem walkU_v (p : Pr) : (walkU p).map U.v = walk p := by
  unfold walkU walk
  rw [List.map_take, nB_v]
theorem walkU_len (p : Pr) : (walkU p).length ≤ 401 := by unfold walkU; rw [List.length_take]; omega

/-! ### visiting -/

section
variable {σ : Type}
def run (g : σ → U → σ × Bool) : σ → List U → σ × Bool
  | s, [] => (s, true)
  | s, u :: r => if (g s u).2 = true then run g (g s u).1 r else ((g s u).1, false)
theorem run_nil (g : σ → U → σ × Bool) (s : σ) : run g s [] = (s, true) := rfl
theorem run_cons (g : σ → U → σ × Bool) (s : σ) (u : U) (r : List U) : run g s (u :: r) = if (g s u).2 = true then run g (g s u).1 r else ((g s u).1, false) := rfl
theorem run_true {g : σ → U → σ × Bool} {s : σ} {u : U} (h : (g s u).2 = true) (r : List U) : run g s (u :: r) = run g (g s u).1 r := by rw [run_cons, if_pos h]
theorem run_app (g : σ → U → σ × Bool) : ∀ (a b : List U) (s : σ), run g s (a ++ b) = if (run g s a).2 = true then run g (run g s a).1 b else ((run g s a).1, false)
  | [], b, s => by simp [run]
  | u :: r, b, s => by
    rw [List.cons_append, run, run]
    by_cases h : (g s u).2 = true
    · rw [if_pos h, if_pos h, run_app g r b]
    · rw [if_neg h, if_neg h]
      simp
/-- the program counts the nodes that it visits, and stops behind the limit -/
def cnt (g : σ → U → σ × Bool) (x : Int × σ) (u : U) : (Int × σ) × Bool := ((IntKind.i64.wrap (x.1 + 1), (g x.2 u).1), (g x.2 u).2 && decide (IntKind.i64.wrap (x.1 + 1) ≤ 400))
theorem wrap_small {n : Int} (h0 : 0 ≤ n) (h1 : n ≤ 1000000) : IntKind.i64.wrap n = n := by
  rw [IntKind.wrap_i64]
  omega
theorem run_cnt (g : σ → U → σ × Bool) : ∀ (l : List U) (k : Nat) (s : σ), k ≤ 400 → (run (cnt g) ((k : Int), s) l).1.2 = (run g s (l.take (401 - k))).1
  | [], k, s, _ => by simp [run]
  | u :: r, k, s, hk => by
    have hw : IntKind.i64.wrap ((k : Int) + 1) = ((k + 1 : Nat) : Int) := by rw [wrap_small (by omega) (by omega)]; rfl
    obtain ⟨m, hm⟩ : ∃ m, 401 - k = m + 1 := ⟨400 - k, by omega⟩
    rw [hm, List.take_succ_cons, run, run]
    cases hg : (g s u).2
    · rw [if_neg (by unfold cnt; simp [hg]), if_neg (by simp)]
      rfl
    · rw [if_pos rfl]
      by_cases h4 : k + 1 ≤ 400
      · rw [if_pos (by unfold cnt; simp only [hg, hw, Bool.true_and, decide_eq_true_eq]; omega)]
        have := run_cnt g r (k + 1) (g s u).1 h4
        rw [show 401 - (k + 1) = m by omega] at this
        rw [← this]
        unfold cnt
        simp only [hw]
      · rw [if_neg (by unfold cnt; simp only [hg, hw, Bool.true_and, decide_eq_true_eq]; omega)]
        obtain rfl : m = 0 := by omega
        rfl
end
theorem run_walk {σ : Type} (g : σ → U → σ × Bool) (s : σ) (p : Pr) : (run (cnt g) (0, s) (nB p.body 1)).1.2 = (run g s (walkU p)).1 := run_cnt g _ 0 s (by omega)

/-! ### a count that bounds the depth -/
section
variable {σ : Type}
/-- a count that a step raises by one, and that it lets grow to 400 at most -/
structure Cn (m : σ → Int) (g : σ → U → σ × Bool) : Prop where
  step : ∀ s u, 0 ≤ m s → m s ≤ 400 → (g s u).2 = true → m (g s u).1 = m s + 1 ∧ m (g s u).1 ≤ 400
/-- a node at depth d can be visited: so many were visited before it -/
def DB (m : σ → Int) (s : σ) (d : Nat) : Prop := 0 ≤ m s ∧ m s ≤ 400 ∧ (d : Int) ≤ m s + 1
theorem DB.lt {m : σ → Int} {s : σ} {d : Nat} (h : DB m s d) : d ≤ 1000000 := by obtain ⟨_, h2, h3⟩ := h; omega
theorem Cn.run {m : σ → Int} {g : σ → U → σ × Bool} (C : Cn m g) : ∀ (l : List U) (s : σ), 0 ≤ m s → m s ≤ 400 → (A.run g s l).2 = true → m s ≤ m (A.run g s l).1 ∧ m (A.run g s l).1 ≤ 400
  | [], s, _, h4, _ => ⟨Int.le_refl _, h4⟩
  | u :: r, s, h0, h4, h => by
    rw [run_cons] at h ⊢
    cases hg : (g s u).2
    · rw [hg] at h; simp at h
    · rw [hg] at h
      simp only [if_true] at h ⊢
      obtain ⟨h1, h2⟩ := C.step s u h0 h4 hg
      have := Cn.run C r (g s u).1 (by omega) h2 h
      omega
theorem Cn.down {m : σ → Int} {g : σ → U → σ × Bool} (C : Cn m g) {s : σ} {u : U} {d : Nat} (h : DB m s d) (hg : (g s u).2 = true) : DB m (g s u).1 (d + 1) := by
  obtain ⟨h0, h4, hd⟩ := h
  obtain ⟨h1, h2⟩ := C.step s u h0 h4 hg
  exact ⟨by omega, h2, by omega⟩
theorem Cn.on {m : σ → Int} {g : σ → U → σ × Bool} (C : Cn m g) {s : σ} {l : List U} {d : Nat} (h : DB m s d) (hg : (A.run g s l).2 = true) : DB m (A.run g s l).1 d := by
  obtain ⟨h0, h4, hd⟩ := h
  obtain ⟨h1, h2⟩ := C.run l s h0 h4 hg
  exact ⟨by omega, h2, by omega⟩
theorem DB.up {m : σ → Int} {s : σ} {d e : Nat} (h : DB m s d) (he : e ≤ d) : DB m s e := by obtain ⟨h0, h4, hd⟩ := h; exact ⟨h0, h4, by omega⟩
theorem cn_cnt (g : σ → U → σ × Bool) : Cn (fun x : Int × σ => x.1) (cnt g) := by
  refine ⟨fun s u h0 h4 h => ?_⟩
  have hw : IntKind.i64.wrap (s.1 + 1) = s.1 + 1 := wrap_small (by have h : 0 ≤ s.1 := h0; omega) (by have h : s.1 ≤ 400 := h4; omega)
  unfold cnt at h ⊢
  simp only [Bool.and_eq_true, decide_eq_true_eq] at h
  exact ⟨hw, h.2⟩
end
/-! ### the steps -/

def gN (z : Int) (_ : U) : Int × Bool := (IntKind.i64.wrap (z + 1), true)
theorem run_N : ∀ (l : List U) (n : Nat), n + l.length ≤ 1000000 → (run gN (n : Int) l).1 = ((n + l.length : Nat) : Int)
  | [], n, _ => rfl
  | u :: r, n, h => by
    rw [List.length_cons] at h ⊢
    rw [run_true rfl]
    show (run gN (IntKind.i64.wrap ((n : Int) + 1)) r).1 = _
    rw [wrap_small (by omega) (by omega), show (n : Int) + 1 = ((n + 1 : Nat) : Int) by omega, run_N r (n + 1) (by omega)]
    congr 1; omega
theorem nodes_run (p : Pr) : (run gN 0 (walkU p)).1 = (nodes p : Int) := by
  have := run_N (walkU p) 0 (by have := walkU_len p; omega)
  rw [Nat.zero_add] at this
  unfold nodes
  rw [← walkU_v, List.length_map]
  exact this
def gD (m : Nat) (u : U) : Nat × Bool := (match u with | .st _ d => max m d | .ex _ _ => m, true)
theorem run_D : ∀ (l : List U) (m : Nat), (run gD m l).1 = ((l.map U.v).map V.depth).foldl max m
  | [], _ => rfl
  | .st s d :: r, m => by
    rw [run_true rfl]
    exact run_D r (max m d)
  | .ex e d :: r, m => by
    rw [run_true rfl, List.map_cons, List.map_cons, List.foldl_cons]
    show (run gD m r).1 = List.foldl max (max m 0) _
    rw [Nat.max_eq_left (Nat.zero_le _)]
    exact run_D r m
theorem depth_run (p : Pr) : (run gD 0 (walkU p)).1 = depth p := by rw [run_D, walkU_v]; rfl
def gV (z : Int) (u : U) : Int × Bool := match u with | .st s d => (stE s d, decide (stE s d = 0)) | .ex _ _ => (z, decide (z = 0))
theorem run_V : ∀ l : List U, (run gV 0 l).1 = firstE (l.map U.v)
  | [] => rfl
  | .st s d :: r => by
    rw [run, List.map_cons, U.v, firstE]
    show (if decide (stE s d = 0) = true then run gV (stE s d) r else (stE s d, false)).1 = _
    by_cases h : stE s d = 0
    · rw [if_pos (decide_eq_true h), if_neg (fun x => x h), h]
      exact run_V r
    · rw [if_neg (by rw [decide_eq_false h]; decide), if_pos h]
  | .ex e d :: r => by
    rw [run, List.map_cons, U.v, firstE]
    exact run_V r
theorem first_run (p : Pr) : (run gV 0 (walkU p)).1 = firstE (walk p) := by rw [run_V, walkU_v]
def saysU (x : ByteArray) (u : U) : Bool := V.says x u.v
def gO (x : ByteArray) (b : Bool) (u : U) : Bool × Bool := (b || saysU x u, !(b || saysU x u))
theorem run_O (x : ByteArray) : ∀ (l : List U) (b : Bool), (run (gO x) b l).1 = (b || (l.map U.v).any (V.says x))
  | [], b => by simp [run]
  | u :: r, b => by
    rw [run, List.map_cons, List.any_cons]
    show (if (!(b || saysU x u)) = true then run (gO x) (b || saysU x u) r else (b || saysU x u, false)).1 = (b || (saysU x u || _))
    rw [← Bool.or_assoc]
    cases h : (b || saysU x u)
    · rw [if_pos (by decide), run_O x r]
    · rw [if_neg (by decide)]; rfl
theorem says_run (x : ByteArray) (p : Pr) (b : Bool) : (run (gO x) b (walkU p)).1 = (b || (walk p).any (V.says x)) := by rw [run_O, walkU_v]
def rootU (u : U) : List Ex := match u with | .st _ _ => [] | .ex e d => if d = 1 then [e] else []
def gX (l : List Ex) (u : U) : List Ex × Bool := (l ++ rootU u, true)
theorem run_X : ∀ (l : List U) (m : List Ex), (run gX m l).1 = m ++ (l.map U.v).filterMap V.rooted
  | [], m => by simp [run]
  | .st s d :: r, m => by
    rw [run_true rfl, List.map_cons, U.v, List.filterMap_cons]
    show (run gX (m ++ []) r).1 = _
    rw [List.append_nil]
    exact run_X r m
  | .ex e d :: r, m => by
    rw [run_true rfl, List.map_cons, U.v, List.filterMap_cons]
    by_cases h : d = 1
    · have h1 : V.rooted (.ex e (decide (d = 1))) = some e := by rw [decide_eq_true h]; rfl
      have h2 : (gX m (U.ex e d)).1 = m ++ [e] := by show m ++ (if d = 1 then [e] else []) = _; rw [if_pos h]
      rw [h1, h2, run_X r, List.append_assoc]; rfl
    · have h1 : V.rooted (.ex e (decide (d = 1))) = none := by rw [decide_eq_false h]; rfl
      have h2 : (gX m (U.ex e d)).1 = m := by show m ++ (if d = 1 then [e] else []) = _; rw [if_neg h, List.append_nil]
      rw [h1, h2]; exact run_X r m
theorem exprs_run (p : Pr) : (run gX [] (walkU p)).1 = exprs p := by rw [run_X, walkU_v]; rfl
def declU (u : U) : List ByteArray := match u with | .st s _ => if s.op = 1 ∨ s.op = 6 then [s.name] else [] | .ex _ _ => []
def gM (l : List ByteArray) (u : U) : List ByteArray × Bool := (l ++ declU u, true)
theorem run_M : ∀ (l : List U) (m : List ByteArray), (run gM m l).1 = m ++ (l.map U.v).filterMap V.decl
  | [], m => by simp [run]
  | .ex e d :: r, m => by
    rw [run_true rfl, List.map_cons, U.v, List.filterMap_cons]
    show (run gM (m ++ []) r).1 = _
    rw [List.append_nil]
    exact run_M r m
  | .st s d :: r, m => by
    rw [run_true rfl, List.map_cons, U.v, List.filterMap_cons]
    by_cases h : s.op = 1 ∨ s.op = 6
    · have h1 : V.decl (.st s d) = some s.name := by show (if s.op = 1 ∨ s.op = 6 then some s.name else none) = _; rw [if_pos h]
      have h2 : (gM m (U.st s d)).1 = m ++ [s.name] := by show m ++ (if s.op = 1 ∨ s.op = 6 then [s.name] else []) = _; rw [if_pos h]
      rw [h1, h2, run_M r, List.append_assoc]; rfl
    · have h1 : V.decl (.st s d) = none := by show (if s.op = 1 ∨ s.op = 6 then some s.name else none) = _; rw [if_neg h]
      have h2 : (gM m (U.st s d)).1 = m := by show m ++ (if s.op = 1 ∨ s.op = 6 then [s.name] else []) = _; rw [if_neg h, List.append_nil]
      rw [h1, h2]; exact run_M r m
theorem names_run (p : Pr) : (run gM (p.params.map Pm.name) (walkU p)).1 = names p := by rw [run_M, walkU_v]; rfl
def gE (z : Int) (u : U) : Int × Bool := match u with | .st _ _ => (z, false) | .ex e d => (nodeE e d, decide (nodeE e d = 0))
mutual
theorem run_E : ∀ (e : Ex) (d : Nat) (z : Int), run gE z (nE e d) = (vE e d, decide (vE e d = 0))
  | .mk o n s l, d, z => by
    rw [nE, run, vE]
    show (if decide (nodeE (.mk o n s l) d = 0) = true then run gE (nodeE (.mk o n s l) d) (nEs l (d + 1)) else (nodeE (.mk o n s l) d, false)) = _
    by_cases h : nodeE (.mk o n s l) d = 0
    · rw [if_pos (decide_eq_true h), if_neg (fun x => x h), h, run_Es l (d + 1)]
    · rw [if_neg (by rw [decide_eq_false h]; decide), if_pos h, decide_eq_false h]
theorem run_Es : ∀ (l : List Ex) (d : Nat), run gE 0 (nEs l d) = (vEs l d, decide (vEs l d = 0))
  | [], _ => rfl
  | e :: r, d => by
    rw [nEs, run_app, run_E e d, vEs]
    by_cases h : vE e d = 0
    · simp only [h, decide_true, if_true]
      rw [if_neg (by simp), run_Es r d]
    · rw [if_neg (by simp only [decide_eq_false h]; decide), if_pos h, decide_eq_false h]
end
/-! ### lists of nodes, from an index on -/
theorem nEs_drop {l : List Ex} {k : Nat} (h : k < l.length) (d : Nat) : nEs (l.drop k) d = nE l[k] d ++ nEs (l.drop (k + 1)) d := by
  rw [List.drop_eq_getElem_cons h, nEs]
theorem nB_drop {l : List St} {k : Nat} (h : k < l.length) (d : Nat) : nB (l.drop k) d = nS l[k] d ++ nB (l.drop (k + 1)) d := by
  rw [List.drop_eq_getElem_cons h, nB]
/-! ### sizes -/
theorem cEs_get : ∀ {l : List Ex} {k : Nat} (h : k < l.length), cE l[k] ≤ cEs l
  | e :: r, 0, _ => by rw [cEs]; simp
  | e :: r, k + 1, h => by
    rw [cEs]
    have := cEs_get (l := r) (k := k) (by simpa using h)
    simp only [List.getElem_cons_succ]
    omega
theorem cB_get : ∀ {l : List St} {k : Nat} (h : k < l.length), cS l[k] ≤ cB l
  | e :: r, 0, _ => by rw [cB]; simp
  | e :: r, k + 1, h => by
    rw [cB]
    have := cB_get (l := r) (k := k) (by simpa using h)
    simp only [List.getElem_cons_succ]
    omega
theorem cE_parts (e : Ex) : cE e = 1 + e.s.size / 64 + cEs e.args := by
  obtain ⟨o, n, s, l⟩ := e
  rw [cE]; rfl
theorem cS_parts (s : St) : cS s = 1 + s.name.size / 64 + cE s.a + cE s.b + cB s.body + cB s.els := by
  obtain ⟨o, nm, mx, a, b, bd, el⟩ := s
  rw [cS]; rfl
end Go.Proofs.YtbmdadhbkdkgmaaDoor.A
