/-
  Procedures in memory; what the reach gives of them; their heads: for the program and the reference of layer 9.
-/
import Derived.Test.YtbmdadhbkdkgmaaDoorPB
import Derived.Test.YtbmdadhbkdkgmaaDoorPC
import Derived.Test.YtbmdadhbkdkgmaaDoorHB
namespace Go.Proofs.YtbmdadhbkdkgmaaDoor.P
open Go.RowKit
open L (Str isName prt size_len below_2 below_box ret_bool ret_int ret_string bytes_eq append_list)
open A

theorem ok_of_in {l : List St} {s : St} {d e : Nat} (hok : okB l) (h : V.st s d ∈ preB l e) : okS s := by
  obtain ⟨j, hj, hv⟩ := List.getElem_of_mem h
  have := preB_ok l e hok j _ (List.getElem?_eq_getElem hj)
  rw [hv] at this
  exact this.1
mutual
theorem mnB_ok : ∀ e : Ex, okE e → nB e
  | .mk o n s l, h => by rw [okE] at h; rw [nB]; exact ⟨h.2.1.2, mnBs_ok l h.2.2.2.2⟩
theorem mnBs_ok : ∀ l : List Ex, okEs l → nBs l
  | [], _ => by rw [nBs]; trivial
  | e :: r, h => by rw [okEs] at h; rw [nBs]; exact ⟨mnB_ok e h.1, mnBs_ok r h.2⟩
end
theorem wp_here {p : Pr} (hok : OkP p) (h : valE p = 0) : WP p := wp_of h fun _ _ hv => ⟨mnB_ok _ (okS_open (ok_of_in hok.body hv)).a, mnB_ok _ (okS_open (ok_of_in hok.body hv)).b⟩
theorem six_of {p : Pr} (h : valE p = 0) : p.params.length ≤ 6 := (par_each (val_parts h).2.1).1
/-- a parameter's text -/
def txQ (p : Pm) : Str := str p.name ++ 58 :: 32 :: tyW p.ty
theorem txPs_app : ∀ a b : List Pm, txPs (a ++ b) = txPs a ++ txPs b
  | [], b => rfl
  | p :: r, b => by rw [List.cons_append, txPs, txPs, txPs_app r b]; simp
theorem txPm_snoc {l : List Pm} {k : Nat} (h : k < l.length) : txPm (l.take (k + 1)) = (if k = 0 then [] else txPm (l.take k) ++ [44, 32]) ++ txQ l[k] := by
  rw [List.take_succ_eq_append_getElem h]
  cases l with
  | nil => simp at h
  | cons p r =>
    cases k with
    | zero => simp [txPm, txPs, txQ]
    | succ k =>
      rw [if_neg (by omega), List.take_succ_cons, List.cons_append, txPm, txPm, txPs_app, txPs, txPs]
      simp [txQ]
theorem txPm_zero (l : List Pm) : txPm (l.take 0) = [] := rfl
theorem par_len {l : List Pm} (hl : ∀ q ∈ l, nam q.name = true ∧ 1 ≤ q.ty ∧ q.ty ≤ 3) (k : Nat) : (txPm (l.take k)).length ≤ 24 * l.length := by
  have := txPm_len (l := l.take k) (fun q hq => hl q (List.mem_of_mem_take hq))
  rw [List.length_take] at this
  have : min k l.length ≤ l.length := Nat.min_le_right _ _
  omega
/-- what has been written ahead of a parameter -/
def headP (p : Pr) (k : Nat) : Str := kProc ++ 32 :: (str p.name ++ 40 :: txPm (p.params.take k))
/-- a procedure that lies at a place -/
def PrAt (w : World) (p : Pr) (b i : Nat) : Prop := ∃ a1 c1 a2 c2, w.cell? ⟨b, i, none⟩ = some (.string p.name) ∧ w.cell? ⟨b, i + 1, none⟩ = some (.slice a1 p.params.length c1) ∧ w.cell? ⟨b, i + 2, none⟩ = some (.slice a2 p.body.length c2) ∧ p.params.length ≤ c1 ∧ PrIn w p a1 a2
/-- the slice at a holds the procedures l -/
def Prs (w : World) (a : Option Addr) (l : List Pr) : Prop := l = [] ∨ ∃ b i, a = some ⟨b, i, none⟩ ∧ ∀ j (h : j < l.length), PrAt w l[j] b (i + j * 3)
theorem PrAt.below {w w' : World} {p : Pr} {b i : Nat} (h : PrAt w p b i) (hb : Below w.heap.size w w') : PrAt w' p b i := by
  obtain ⟨a1, c1, a2, c2, h0, h1, h2, h3, h4⟩ := h
  have hlt : b < w.heap.size := block_lt_of_cell h0
  exact ⟨a1, c1, a2, c2, (hb.cell hlt).trans h0, (hb.cell hlt).trans h1, (hb.cell hlt).trans h2, h3, h4.below hb⟩
theorem Prs.below {w w' : World} {a : Option Addr} {l : List Pr} (h : Prs w a l) (hb : Below w.heap.size w w') : Prs w' a l := by
  rcases h with h | ⟨b, i, ha, h⟩
  · exact Or.inl h
  · exact Or.inr ⟨b, i, ha, fun j hj => (h j hj).below hb⟩
theorem Prs.open {w : World} {a : Option Addr} {l : List Pr} (h : Prs w a l) {k : Nat} (hk : k < l.length) : ∃ b i, a = some ⟨b, i, none⟩ ∧ PrAt w l[k] b (i + k * 3) := by
  rcases h with rfl | ⟨b, i, ha, h⟩
  · cases hk
  · exact ⟨b, i, ha, h k hk⟩
/-- what may be printed: each procedure within the reach -/
structure OkL (l : List Pr) : Prop where
  len : l.length ≤ 1048576
  each : ∀ j (h : j < l.length), OkP l[j]
theorem txL_len {l : List Pr} (hok : OkL l) (h : ∀ p ∈ l, valE p = 0) (k : Nat) : (txL (l.take k)).length ≤ 260000000000 := by
  have h1 := txL_lenN (l := l.take k) (fun p hp => by
    have hm := List.mem_of_mem_take hp
    obtain ⟨j, hj, rfl⟩ := List.getElem_of_mem hm
    exact ⟨h _ hm, wp_here (hok.each j hj) (h _ hm)⟩)
  have h2 := hok.len
  have h3 : (l.take k).length ≤ l.length := by rw [List.length_take]; exact Nat.min_le_right _ _
  have : 240201 * (l.take k).length ≤ 240201 * 1048576 := Nat.mul_le_mul_left _ (by omega)
  omega
end Go.Proofs.YtbmdadhbkdkgmaaDoor.P
