/-
  Declarations of texts that lie merged: what further laws need of QPlain.
-/
import Derived.Test.YtkjefigebdbkaaaDoorSQPlain
namespace Go.Proofs.YtkjefigebdbkaaaDoor.Q
open A (Ex St Pm Pr V absent preE preEs preR preS preB walk exprs valE stE renE renEs renS renB ren swap)
open N (isR isN)
namespace Ct
theorem cut_id {a : Ct} (h : a.s ≤ 16385 ∧ a.g ≤ 16385 ∧ a.u ≤ 16385 ∧ a.m ≤ 16385) : cut a = a := by
  refine eq ?_ ?_ ?_ ?_ <;> (simp only [cut]; omega)
theorem le.addl {a b : Ct} (h : le a b) (c : Ct) : le (add c a) (add c b) := ⟨Nat.add_le_add_left h.1 _, Nat.add_le_add_left h.2.1 _, Nat.add_le_add_left h.2.2.1 _, Nat.add_le_add_left h.2.2.2 _⟩
theorem le_mx1 (a b : Ct) : le a (mx a b) := ⟨Nat.le_max_left _ _, Nat.le_max_left _ _, Nat.le_max_left _ _, Nat.le_max_left _ _⟩
theorem le_mx2 (a b : Ct) : le b (mx a b) := ⟨Nat.le_max_right _ _, Nat.le_max_right _ _, Nat.le_max_right _ _, Nat.le_max_right _ _⟩
theorem mul_succ (k : Nat) (a : Ct) : mul (k + 1) a = add (mul k a) a := by
  refine eq ?_ ?_ ?_ ?_ <;> (simp only [mul, add]; rw [Nat.mul_add, Nat.mul_one])
theorem mul_zero (a : Ct) : mul 0 a = z := rfl
theorem mul_le {k n : Nat} (h : k ≤ n) (a : Ct) : le (mul k a) (mul n a) := ⟨Nat.mul_le_mul_left _ h, Nat.mul_le_mul_left _ h, Nat.mul_le_mul_left _ h, Nat.mul_le_mul_left _ h⟩
end Ct
theorem exB_takele : ∀ (l : List St) (k : Nat), (exB (l.take k)).le (exB l)
  | [], k => by rw [List.take_nil]; exact Ct.le.refl _
  | e :: r, 0 => by rw [List.take_zero, exB]; exact ⟨Nat.zero_le _, Nat.zero_le _, Nat.zero_le _, Nat.zero_le _⟩
  | e :: r, k + 1 => by rw [List.take_succ_cons, exB, exB]; exact (exB_takele r k).addl _
end Go.Proofs.YtkjefigebdbkaaaDoor.Q
