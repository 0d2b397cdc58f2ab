/-
  What the reference of layer 8 returns: params: a contract.
  What the reference of layer 8 returns: Validate: a contract (over stmt's).
-/
import Derived.BigQuiet
import Derived.Test.YtbmdadhbkdkgmaaDoorGE
import Derived.Test.YtbmdadhbkdkgmaaDoorGF
import Derived.Test.YtbmdadhbkdkgmaaDoorGU
import Derived.Deep.RegionLaw
import Derived.Test.YtbmdadhbkdkgmaaDoorGS
import Derived.Test.YtbmdadhbkdkgmaaDoorGH
namespace Go.Proofs.YtbmdadhbkdkgmaaDoor.A
open Go.RowKit
open L (Str isName prt size_len below_2 below_box ret_bool ret_int eql_eq bytes_eq)

end Go.Proofs.YtbmdadhbkdkgmaaDoor.A
namespace Go.Proofs.YtbmdadhbkdkgmaaDoor.A
open Go.RowKit
open L (Str isName prt size_len below_2 below_box ret_bool ret_int eql_eq bytes_eq)

def VOk (n : Nat) : V → Prop
  | .st s d => okS s ∧ d ≤ n
  | .ex _ _ => True
theorem VOk.mono {n k : Nat} {v : V} (h : VOk n v) (hn : n ≤ k) : VOk k v := by
  cases v with
  | st s d => exact ⟨h.1, Nat.le_trans h.2 hn⟩
  | ex e r => trivial
/-- the node at place j lies at most j blocks deeper than n -/
def Dp (n : Nat) (l : List V) : Prop := ∀ j v, l[j]? = some v → VOk (n + j) v
theorem Dp.nil (n : Nat) : Dp n [] := fun j v h => by simp at h
theorem Dp.cons {n : Nat} {v : V} {l : List V} (h : VOk n v) (h2 : Dp (n + 1) l) : Dp n (v :: l) := fun j x hx => by
  cases j with
  | zero => simp at hx; subst hx; exact h
  | succ j => exact (h2 j x (by simpa using hx)).mono (by omega)
theorem Dp.app {n : Nat} {a b : List V} (h : Dp n a) (h2 : Dp n b) : Dp n (a ++ b) := fun j x hx => by
  by_cases hj : j < a.length
  · rw [List.getElem?_append_left hj] at hx; exact h j x hx
  · rw [List.getElem?_append_right (by omega)] at hx; exact (h2 _ x hx).mono (by omega)
theorem Dp.le {n k : Nat} {l : List V} (h : Dp n l) (hn : n ≤ k) : Dp k l := fun j x hx => (h j x hx).mono (by omega)
mutual
theorem preE_ok (n : Nat) : ∀ (e : Ex) (r : Bool), ∀ v ∈ preE e r, VOk n v
  | .mk o m s l, r, v, h => by
    rw [preE] at h
    rcases List.mem_cons.1 h with rfl | h
    · trivial
    · exact preEs_ok n l v h
theorem preEs_ok (n : Nat) : ∀ (l : List Ex), ∀ v ∈ preEs l, VOk n v
  | [], v, h => by rw [preEs] at h; cases h
  | e :: r, v, h => by
    rw [preEs] at h
    rcases List.mem_append.1 h with h | h
    · exact preE_ok n e false v h
    · exact preEs_ok n r v h
end
theorem preR_ok (n : Nat) (e : Ex) : Dp n (preR e) := by
  intro j v h
  have hm := List.mem_of_getElem? h
  unfold preR at hm
  split at hm
  · cases hm
  · exact preE_ok (n + j) e true v hm
mutual
theorem preS_ok : ∀ (s : St) (d : Nat), okS s → Dp d (preS s d)
  | .mk o nm mx a b bd el, d, hok => by
    have hp := hok
    rw [okS] at hp
    obtain ⟨_, _, _, _, _, _, h1, _, h2⟩ := hp
    rw [preS]
    refine Dp.cons ⟨hok, Nat.le_refl d⟩ ?_
    exact (((preR_ok (d + 1) a).app (preR_ok (d + 1) b)).app (preB_ok bd (d + 1) h1)).app (preB_ok el (d + 1) h2)
theorem preB_ok : ∀ (l : List St) (d : Nat), okB l → Dp d (preB l d)
  | [], d, _ => by rw [preB]; exact Dp.nil d
  | s :: r, d, hok => by
    rw [okB] at hok
    rw [preB]
    exact (preS_ok s d hok.1).app (preB_ok r d hok.2)
end
theorem walk_ok {p : Pr} (hok : okB p.body) : ∀ v ∈ walk p, VOk 1000000 v := fun v h => by
  obtain ⟨j, hj, rfl⟩ := List.getElem_of_mem h
  unfold walk at hj ⊢
  have hj2 : j < 401 := by rw [List.length_take] at hj; omega
  rw [List.getElem_take]
  exact (preB_ok p.body 1 hok j _ (List.getElem?_eq_getElem _)).mono (by omega)
theorem firstE_drop {l : List V} {k : Nat} (h : k < l.length) : firstE (l.drop k) = match l[k] with | .st s d => if stE s d ≠ 0 then stE s d else firstE (l.drop (k + 1)) | .ex _ _ => firstE (l.drop (k + 1)) := by
  rw [List.drop_eq_getElem_cons h]
  cases l[k] <;> rfl
end Go.Proofs.YtbmdadhbkdkgmaaDoor.A
