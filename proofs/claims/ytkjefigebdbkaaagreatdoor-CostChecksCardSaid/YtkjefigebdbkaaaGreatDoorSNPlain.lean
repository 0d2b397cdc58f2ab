/-
  Plain mathematics of layer 12, without the program: the operators of an expression's nodes in preorder; which are nondeterministic, which read the state; the first one of a procedure.
-/
import Derived.Test.YtkjefigebdbkaaaGreatDoorSAFacts
namespace Go.Proofs.YtkjefigebdbkaaaGreatDoor.N
open A (Ex St Pm Pr V absent preE preEs preR preS preB walk exprs)

def isN (o : Int) : Bool := decide (o = 25) || (decide (o = 26) || decide (o = 27))
def isR (o : Int) : Bool := decide (o = 22) || (decide (o = 23) || decide (o = 24))
mutual
def ops : Ex → List Int
  | .mk o _ _ l => o :: opss l
def opss : List Ex → List Int
  | [] => []
  | e :: r => ops e ++ opss r
end
def cleanE (e : Ex) : Bool := !(ops e).any isN
def fstF (k : Int) : List Int → Int × Int × Bool
  | [] => (0, 0, false)
  | o :: r => if isN o = true then (o, k, true) else fstF (k + 1) r
def allOps (p : Pr) : List Int := (exprs p).flatMap ops
def firstN (p : Pr) : Int × Int × Bool := if A.valE p ≠ 0 then (0, 0, false) else fstF 0 (allOps p)
mutual
def clS : St → Bool
  | .mk _ _ _ a b bd el => cleanE a && (cleanE b && (clB bd && clB el))
def clB : List St → Bool
  | [] => true
  | s :: r => clS s && clB r
end
theorem opss_is : ∀ l : List Ex, opss l = l.flatMap ops
  | [] => rfl
  | e :: r => by rw [opss, opss_is r, List.flatMap_cons]
theorem ops_mk (o n : Int) (s : ByteArray) (l : List Ex) : ops (.mk o n s l) = o :: l.flatMap ops := by rw [ops, opss_is]
theorem ops_op (e : Ex) : ops e = e.op :: e.args.flatMap ops := by
  obtain ⟨o, n, s, l⟩ := e
  rw [ops_mk]; rfl
theorem fstF_app (l r : List Int) : ∀ k, fstF k (l ++ r) = if l.any isN = true then fstF k l else fstF (k + l.length) r := by
  induction l with
  | nil => intro k; simp
  | cons o l ih =>
    intro k
    rw [List.cons_append, fstF, fstF, List.any_cons]
    cases h : isN o
    · simp only [Bool.false_eq_true, ↓reduceIte, Bool.false_or]
      rw [ih (k + 1), List.length_cons]
      rw [show k + 1 + (l.length : Int) = k + ((l.length + 1 : Nat) : Int) by omega]
    · simp
theorem fstF_none {l : List Int} (h : l.any isN = false) : ∀ k, fstF k l = (0, 0, false) := by
  induction l with
  | nil => intro k; rfl
  | cons o l ih =>
    intro k
    rw [List.any_cons, Bool.or_eq_false_iff] at h
    rw [fstF, if_neg (by rw [h.1]; decide), ih h.2]
/-! the expressions of statements, and those of the walk -/
mutual
theorem preE_none : ∀ (e : Ex), (preE e false).filterMap V.rooted = []
  | .mk o n s l => by rw [preE, List.filterMap_cons]; exact preEs_none l
theorem preEs_none : ∀ (l : List Ex), (preEs l).filterMap V.rooted = []
  | [] => by rw [preEs]; rfl
  | e :: r => by rw [preEs, List.filterMap_append, preE_none e, preEs_none r]; rfl
end
theorem preE_true (e : Ex) : (preE e true).filterMap V.rooted = [e] := by
  obtain ⟨o, n, s, l⟩ := e
  rw [preE, List.filterMap_cons, preEs_none l]; rfl
theorem preR_roots (e : Ex) : (preR e).filterMap V.rooted = if absent e = true then [] else [e] := by
  unfold preR
  cases h : absent e
  · rw [if_neg (by decide), if_neg (by decide), preE_true]
  · rw [if_pos rfl, if_pos rfl]; rfl
theorem absent_ops {e : Ex} (h : absent e = true) : ops e = [0] := by
  obtain ⟨o, n, s, l⟩ := e
  unfold absent at h
  simp only [Bool.and_eq_true, decide_eq_true_iff, List.isEmpty_iff] at h
  obtain ⟨⟨⟨h1, -⟩, -⟩, h4⟩ := h
  have h1' : o = 0 := h1
  have h4' : l = [] := h4
  rw [ops_mk, h1', h4']; rfl
theorem root_clean (e : Ex) : (((preR e).filterMap V.rooted).flatMap ops).any isN = !cleanE e := by
  rw [preR_roots]
  unfold cleanE
  cases h : absent e
  · rw [if_neg (by decide)]; simp
  · rw [if_pos rfl, absent_ops h]; rfl
mutual
theorem clS_is : ∀ (s : St) (d : Nat), (((preS s d).filterMap V.rooted).flatMap ops).any isN = !clS s
  | .mk o nm mx a b bd el, d => by
    rw [preS, clS, List.filterMap_cons]
    simp only [V.rooted, List.filterMap_append, List.flatMap_append, List.any_append]
    rw [root_clean a, root_clean b, clB_is bd, clB_is el]
    cases cleanE a <;> cases cleanE b <;> cases clB bd <;> cases clB el <;> rfl
theorem clB_is : ∀ (l : List St) (d : Nat), (((preB l d).filterMap V.rooted).flatMap ops).any isN = !clB l
  | [], _ => by rw [preB, clB]; rfl
  | s :: r, d => by
    rw [preB, clB, List.filterMap_append, List.flatMap_append, List.any_append, clS_is s d, clB_is r d]
    cases clS s <;> cases clB r <;> rfl
end
mutual
theorem ops_pre : ∀ (e : Ex) (r : Bool), (ops e).length = (preE e r).length
  | .mk o n s l, r => by rw [ops, preE, List.length_cons, List.length_cons, opss_pre l]
theorem opss_pre : ∀ (l : List Ex), (opss l).length = (preEs l).length
  | [] => by rw [opss, preEs]; rfl
  | e :: r => by rw [opss, preEs, List.length_append, List.length_append, ops_pre e false, opss_pre r]
end
mutual
theorem ops_cE : ∀ (e : Ex), (ops e).length ≤ A.cE e
  | .mk o n s l => by rw [ops, A.cE, List.length_cons]; have := opss_cE l; omega
theorem opss_cE : ∀ (l : List Ex), (opss l).length ≤ A.cEs l
  | [] => by rw [opss, A.cEs]; exact Nat.le_refl _
  | e :: r => by rw [opss, A.cEs, List.length_append]; have := ops_cE e; have := opss_cE r; omega
end
theorem rootR_len (e : Ex) : (((preR e).filterMap V.rooted).flatMap ops).length ≤ (preR e).length := by
  rw [preR_roots]
  unfold preR
  cases h : absent e
  · rw [if_neg (by decide), if_neg (by decide), ← ops_pre e true]; simp
  · rw [if_pos rfl]; simp
mutual
theorem roots_len : ∀ (s : St) (d : Nat), (((preS s d).filterMap V.rooted).flatMap ops).length ≤ (preS s d).length
  | .mk o nm mx a b bd el, d => by
    rw [preS, List.filterMap_cons]
    simp only [V.rooted, List.filterMap_append, List.flatMap_append, List.length_append, List.length_cons]
    have h1 := rootR_len a
    have h2 := rootR_len b
    have h3 := rootB_len bd (d + 1)
    have h4 := rootB_len el (d + 1)
    omega
theorem rootB_len : ∀ (l : List St) (d : Nat), (((preB l d).filterMap V.rooted).flatMap ops).length ≤ (preB l d).length
  | [], _ => by rw [preB]; exact Nat.le_refl _
  | s :: r, d => by
    rw [preB, List.filterMap_append, List.flatMap_append, List.length_append, List.length_append]
    have h1 := roots_len s d
    have h2 := rootB_len r d
    omega
end
theorem allOps_len {p : Pr} (h : A.valE p = 0) : (allOps p).length ≤ 400 := by
  obtain ⟨-, -, -, h4⟩ := A.val_parts h
  have h5 := rootB_len p.body 1
  have h6 := A.walk_full h4
  unfold allOps exprs
  rw [h6]
  rw [h6] at h4
  omega
end Go.Proofs.YtkjefigebdbkaaaGreatDoor.N
