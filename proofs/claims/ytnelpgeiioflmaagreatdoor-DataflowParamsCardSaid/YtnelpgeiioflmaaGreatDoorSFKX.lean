/-
  Plain mathematics of layer 14: a reading node's operand; what a visit says of assigned variables and keys.
-/
import Derived.Test.YtnelpgeiioflmaaGreatDoorSFRE
namespace Go.Proofs.YtnelpgeiioflmaaGreatDoor.F
open A (Ex St Pm Pr V walk)
open Y (chk)

theorem head_tE {T : ByteArray → Bool} {e : Ex} (h : 0 < e.args.length) : (match e.args with | k :: _ => tE T k | [] => false) = tE T e.args[0] := by
  obtain ⟨o, n, s, l⟩ := e
  cases l with
  | nil => exact absurd h (Nat.lt_irrefl 0)
  | cons q rest => rfl
theorem ex_args {p : Pr} (h : (chk p).2 = 0) {e : Ex} {r : Bool} (hm : A.V.ex e r ∈ walk p) (ha : acc e.op = true) : 0 < e.args.length := by
  obtain ⟨hw, ho⟩ := ok_walk h
  rw [hw] at hm
  obtain ⟨e0, h1, h2, -⟩ := ex_rootB p.body 1 e r hm
  obtain ⟨d, hd⟩ := vE_sub e0 true 1 e r (A.preB_root p.body 1 ho e0 h1).1 h2
  have hn := node_of hd
  obtain ⟨o, n, s, l⟩ := e
  have ho3 : o = 22 ∨ o = 23 ∨ o = 24 := by
    have : acc o = true := ha
    unfold acc at this
    simp only [Bool.or_eq_true, decide_eq_true_eq] at this
    rcases this with (h | h) | h
    · exact Or.inl h
    · exact Or.inr (Or.inl h)
    · exact Or.inr (Or.inr h)
  have har : A.arity o = 1 := by rcases ho3 with rfl | rfl | rfl <;> rfl
  unfold A.nodeE at hn
  split at hn
  · cases hn
  · split at hn
    · cases hn
    · split at hn
      · cases hn
      · rename_i h3
        have h4 : ¬ ((l.length : Int) ≠ A.arity o) := fun z => h3 (Or.inr (Or.inr z))
        rw [har] at h4
        show 0 < l.length
        omega
theorem sets_of (v : V) : V.sets v = if (stOf v).op = 2 then some (stOf v).name else none := by
  cases v with
  | st s d => rfl
  | ex e r => rfl
theorem fm_take {α β : Type} {g : α → Option β} {l : List α} {k : Nat} (h : k < l.length) : (l.take (k + 1)).filterMap g = (l.take k).filterMap g ++ (match g l[k] with | some y => [y] | none => []) := by
  rw [List.take_succ_eq_append_getElem h, List.filterMap_append]
  congr 1
  rw [List.filterMap_cons]
  cases g l[k] <;> rfl
theorem all_take {α : Type} {g : α → Bool} {l : List α} {k : Nat} (h : k < l.length) : (l.take (k + 1)).all g = ((l.take k).all g && g l[k]) := by
  rw [List.take_succ_eq_append_getElem h, List.all_append, List.all_cons, List.all_nil, Bool.and_true]
theorem head_plain {T : ByteArray → Bool} {e : Ex} (h : 0 < e.args.length) : (match e.args with | k :: _ => plainK T k | [] => true) = plainK T e.args[0] := by
  obtain ⟨o, n, s, l⟩ := e
  cases l with
  | nil => exact absurd h (Nat.lt_irrefl 0)
  | cons q rest => rfl
end Go.Proofs.YtnelpgeiioflmaaGreatDoor.F
