/-
  Plain mathematics of layer 13, without the program: the counts of expressions, statements and lists, exact and saturated; renaming, loops.
-/
import Derived.Test.YtkjefigebdbkaaaGreatDoorSNPlain
namespace Go.Proofs.YtkjefigebdbkaaaGreatDoor.Q
open A (Ex St Pm Pr V absent preE preEs preR preS preB walk exprs valE stE renE renEs renS renB swap)
open N (isR isN)

structure Ct where
  s : Nat
  g : Nat
  u : Nat
  m : Nat
namespace Ct
def z : Ct := ⟨0, 0, 0, 0⟩
def add (a b : Ct) : Ct := ⟨a.s + b.s, a.g + b.g, a.u + b.u, a.m + b.m⟩
def mul (n : Nat) (a : Ct) : Ct := ⟨a.s * n, a.g * n, a.u * n, a.m * n⟩
def mx (a b : Ct) : Ct := ⟨max a.s b.s, max a.g b.g, max a.u b.u, max a.m b.m⟩
def cut (a : Ct) : Ct := ⟨min a.s 16385, min a.g 16385, min a.u 16385, min a.m 16385⟩
theorem eq {a b : Ct} (h1 : a.s = b.s) (h2 : a.g = b.g) (h3 : a.u = b.u) (h4 : a.m = b.m) : a = b := by
  obtain ⟨a1, a2, a3, a4⟩ := a
  obtain ⟨b1, b2, b3, b4⟩ := b
  have e1 : a1 = b1 := h1
  have e2 : a2 = b2 := h2
  have e3 : a3 = b3 := h3
  have e4 : a4 = b4 := h4
  rw [e1, e2, e3, e4]
theorem cut_add (a b : Ct) : cut (add (cut a) (cut b)) = cut (add a b) := by
  refine eq ?_ ?_ ?_ ?_ <;> (simp only [cut, add]; omega)
theorem cut_addr (a b : Ct) : cut (add a (cut b)) = cut (add a b) := by
  refine eq ?_ ?_ ?_ ?_ <;> (simp only [cut, add]; omega)
theorem cut_addl (a b : Ct) : cut (add (cut a) b) = cut (add a b) := by
  refine eq ?_ ?_ ?_ ?_ <;> (simp only [cut, add]; omega)
theorem min_mul (a n : Nat) : min (min a 16385 * n) 16385 = min (a * n) 16385 := by
  by_cases h : a ≤ 16385
  · rw [Nat.min_eq_left h]
  · rw [Nat.min_eq_right (by omega : 16385 ≤ a)]
    cases n with
    | zero => rfl
    | succ n =>
      have h1 : 16385 ≤ 16385 * (n + 1) := by omega
      have h2 : 16385 * (n + 1) ≤ a * (n + 1) := Nat.mul_le_mul_right _ (by omega)
      omega
theorem cut_mul (n : Nat) (a : Ct) : cut (mul n (cut a)) = cut (mul n a) := by
  refine eq ?_ ?_ ?_ ?_ <;> (simp only [cut, mul]; exact min_mul _ _)
theorem cut_mx (a b : Ct) : mx (cut a) (cut b) = cut (mx a b) := by
  refine eq ?_ ?_ ?_ ?_ <;> (simp only [cut, mx]; omega)
theorem cut_cut (a : Ct) : cut (cut a) = cut a := by
  refine eq ?_ ?_ ?_ ?_ <;> (simp only [cut]; omega)
theorem cut_bd (a : Ct) : (cut a).s ≤ 16385 ∧ (cut a).g ≤ 16385 ∧ (cut a).u ≤ 16385 ∧ (cut a).m ≤ 16385 := by
  refine ⟨?_, ?_, ?_, ?_⟩ <;> (simp only [cut]; omega)
theorem add_assoc (a b c : Ct) : add (add a b) c = add a (add b c) := by
  refine eq ?_ ?_ ?_ ?_ <;> (simp only [add]; omega)
theorem add_z (a : Ct) : add a z = a := by
  refine eq ?_ ?_ ?_ ?_ <;> (simp only [add, z]; omega)
theorem z_add (a : Ct) : add z a = a := by
  refine eq ?_ ?_ ?_ ?_ <;> (simp only [add, z]; omega)
def one : Ct := ⟨1, 0, 0, 0⟩
end Ct
mutual
def gE : Ex → Nat
  | .mk o _ _ l => (if isR o = true then 1 else 0) + gEs l
def gEs : List Ex → Nat
  | [] => 0
  | e :: r => gE e + gEs r
end
def ownC (o : Int) (a b : Ex) : Ct := ⟨1, gE a + gE b, if o = 3 ∨ o = 4 then 1 else 0, if o = 7 then 1 else 0⟩
mutual
def exS : St → Ct
  | .mk o _ mx a b bd el => (ownC o a b).add (if o = 5 then (exB bd).mx (exB el) else if o = 6 then Ct.mul mx.toNat ((exB bd).add Ct.one) else Ct.z)
def exB : List St → Ct
  | [] => Ct.z
  | s :: r => (exS s).add (exB r)
end
theorem exS_parts (s : St) : exS s = (ownC s.op s.a s.b).add (if s.op = 5 then (exB s.body).mx (exB s.els) else if s.op = 6 then Ct.mul s.mx.toNat ((exB s.body).add Ct.one) else Ct.z) := by
  obtain ⟨o, nm, mx, a, b, bd, el⟩ := s
  rw [exS]; rfl
theorem gEs_take {l : List Ex} {k : Nat} (h : k < l.length) : gEs (l.take (k + 1)) = gEs (l.take k) + gE l[k] := by
  induction l generalizing k with
  | nil => cases h
  | cons e l ih =>
    cases k with
    | zero => simp [gEs]
    | succ k =>
      have := ih (k := k) (by simpa using h)
      simp only [List.take_succ_cons, gEs, List.getElem_cons_succ] at this ⊢
      omega
theorem exB_take {l : List St} {k : Nat} (h : k < l.length) : exB (l.take (k + 1)) = (exB (l.take k)).add (exS l[k]) := by
  induction l generalizing k with
  | nil => cases h
  | cons e l ih =>
    cases k with
    | zero => simp only [List.take_succ_cons, List.take_zero, exB, List.getElem_cons_zero, Ct.add_z, Ct.z_add]
    | succ k =>
      have := ih (k := k) (by simpa using h)
      simp only [List.take_succ_cons, exB, List.getElem_cons_succ] at this ⊢
      rw [this, Ct.add_assoc]
mutual
theorem gE_cE : ∀ (e : Ex), gE e ≤ A.cE e
  | .mk o n s l => by rw [gE, A.cE]; have := gEs_cE l; split <;> omega
theorem gEs_cE : ∀ (l : List Ex), gEs l ≤ A.cEs l
  | [] => by rw [gEs, A.cEs]; exact Nat.le_refl _
  | e :: r => by rw [gEs, A.cEs]; have := gE_cE e; have := gEs_cE r; omega
end
mutual
def goS : St → Prop
  | .mk o _ mx _ _ bd el => (o = 6 → 1 ≤ mx ∧ mx ≤ 16) ∧ goB bd ∧ goB el
def goB : List St → Prop
  | [] => True
  | s :: r => goS s ∧ goB r
end
theorem goS_parts {s : St} (h : goS s) : (s.op = 6 → 1 ≤ s.mx ∧ s.mx ≤ 16) ∧ goB s.body ∧ goB s.els := by
  obtain ⟨o, nm, mx, a, b, bd, el⟩ := s
  rw [goS] at h; exact h
theorem goB.get : ∀ {l : List St}, goB l → ∀ j (h : j < l.length), goS l[j]
  | e :: r, h, 0, _ => by rw [goB] at h; exact h.1
  | e :: r, h, j + 1, hj => by rw [goB] at h; exact goB.get h.2 j (by simpa using hj)
mutual
theorem goS_valid : ∀ (s : St) (d : Nat), (∀ t k, V.st t k ∈ preS s d → stE t k = 0) → goS s
  | .mk o nm mx a b bd el, d, hg => by
    rw [preS] at hg
    rw [goS]
    have h0 := hg _ _ List.mem_cons_self
    have hm := (A.good_of h0).most
    refine ⟨fun ho => ?_, goB_valid bd (d + 1) fun t k ht => hg t k (List.mem_cons_of_mem _ (List.mem_append.2 (Or.inl (List.mem_append.2 (Or.inr ht))))), goB_valid el (d + 1) fun t k ht => hg t k (List.mem_cons_of_mem _ (List.mem_append.2 (Or.inr ht)))⟩
    unfold A.badM at hm
    have ho' : (St.mk o nm mx a b bd el).op = 6 := ho
    rw [ho'] at hm
    simp only [Bool.or_eq_false_iff, Bool.and_eq_false_iff, decide_eq_false_iff_not] at hm
    have h1 := hm.1
    have h2 : ¬ (St.mk o nm mx a b bd el).mx < 1 ∧ ¬ 16 < (St.mk o nm mx a b bd el).mx := h1.resolve_left (fun x => x trivial)
    have h3 : ¬ mx < 1 ∧ ¬ 16 < mx := h2
    omega
theorem goB_valid : ∀ (l : List St) (d : Nat), (∀ t k, V.st t k ∈ preB l d → stE t k = 0) → goB l
  | [], _, _ => by rw [goB]; trivial
  | s :: r, d, hg => by
    rw [preB] at hg
    rw [goB]
    exact ⟨goS_valid s d fun t k ht => hg t k (List.mem_append.2 (Or.inl ht)), goB_valid r d fun t k ht => hg t k (List.mem_append.2 (Or.inr ht))⟩
end
theorem go_val {p : Pr} (h : valE p = 0) : goB p.body := by
  obtain ⟨-, -, h3, h4⟩ := A.val_parts h
  have hw := A.walk_full h4
  have hfe := fun t k ht => A.first_each h3 t k ht
  rw [hw] at hfe
  exact goB_valid p.body 1 hfe
end Go.Proofs.YtkjefigebdbkaaaGreatDoor.Q
