/-
  Plain mathematics of layer 9, without the program: which of PrinterOperators' trees are valid, and what their texts are.
-/
import Derived.Test.YtbmdadhbkdkgmaaDoorQA
namespace Go.Proofs.YtbmdadhbkdkgmaaDoor.P
open L (Str bytes_eq append_list)
open A
theorem v_all {o n : Int} {s : ByteArray} {l : List Ex} {d : Nat} (h : nodeE (.mk o n s l) d = 0) : vE (.mk o n s l) d = vEs l (d + 1) := by
  rw [vE, if_neg (by rw [h]; exact fun h => h rfl)]
theorem v_un {a : Ex} (o : Int) (ho : o = 9 ∨ o = 18 ∨ o = 20 ∨ o = 21 ∨ o = 22 ∨ o = 23 ∨ o = 24) {d : Nat} (hd : d ≤ 12) : vE (u1 o a) d = vE a (d + 1) := by
  have hn : nodeE (u1 o a) d = 0 := by
    have h12 : ¬ 12 < d := by omega
    rcases ho with rfl | rfl | rfl | rfl | rfl | rfl | rfl <;> simp [nodeE, arity, Ex.op, Ex.n, Ex.s, Ex.args, h12] <;> decide
  rw [v_all hn, vEs, vEs]
  by_cases h : vE a (d + 1) = 0 <;> simp [h]
theorem v_bi {a b : Ex} (o : Int) (h1 : 4 ≤ o) (h2 : o ≤ 19) (h3 : o ≠ 9) (h4 : o ≠ 18) {d : Nat} (hd : d ≤ 12) : vE (b2 o a b) d = 0 ↔ vE a (d + 1) = 0 ∧ vE b (d + 1) = 0 := by
  have hn : nodeE (b2 o a b) d = 0 := by
    have h12 : ¬ 12 < d := by omega
    have : o = 4 ∨ o = 5 ∨ o = 6 ∨ o = 7 ∨ o = 8 ∨ o = 10 ∨ o = 11 ∨ o = 12 ∨ o = 13 ∨ o = 14 ∨ o = 15 ∨ o = 16 ∨ o = 17 ∨ o = 19 := by omega
    rcases this with rfl | rfl | rfl | rfl | rfl | rfl | rfl | rfl | rfl | rfl | rfl | rfl | rfl | rfl <;> simp [nodeE, arity, Ex.op, Ex.n, Ex.s, Ex.args, h12] <;> decide
  rw [v_all hn, vEs, vEs, vEs]
  by_cases h : vE a (d + 1) = 0
  · by_cases h' : vE b (d + 1) = 0 <;> simp [h, h']
  · simp [h]
theorem v_deep {e : Ex} {d : Nat} (h : vE e d = 0) : d ≤ 12 := by
  cases e
  have := (vE_parts h).1
  unfold nodeE at this
  repeat' split at this
  all_goals first | omega | exact absurd this (by decide)
theorem node_up {e : Ex} {d d' : Nat} (hd : d' ≤ d) (h : nodeE e d = 0) : nodeE e d' = 0 := by
  unfold nodeE at h ⊢
  split at h
  · cases h
  rename_i k1
  rw [if_neg k1]
  split at h
  · cases h
  rename_i k2
  rw [if_neg k2]
  split at h
  · cases h
  rename_i k3
  rw [if_neg k3]
  split at h
  · cases h
  rename_i k4
  rw [if_neg (by omega)]
mutual
theorem v_up : ∀ (e : Ex) {d d' : Nat}, d' ≤ d → vE e d = 0 → vE e d' = 0
  | .mk o n s l, d, d', hd, h => by
    obtain ⟨h1, h2⟩ := vE_parts h
    rw [v_all (node_up hd h1)]
    exact vs_up l (Nat.succ_le_succ hd) h2
theorem vs_up : ∀ (l : List Ex) {d d' : Nat}, d' ≤ d → vEs l d = 0 → vEs l d' = 0
  | [], _, _, _, _ => by rw [vEs]
  | e :: r, d, d', hd, h => by
    obtain ⟨h1, h2⟩ := vEs_parts h
    rw [vEs, if_neg (by rw [v_up e hd h1]; exact fun h => h rfl)]
    exact vs_up r hd h2
end
/-- what the law asks first of an operand: it may stand two levels deeper -/
theorem v_not {e : Ex} : vE (u1 18 (u1 18 e)) 1 = vE e 3 := by
  rw [v_un 18 (by decide) (by decide), v_un 18 (by decide) (by decide)]
theorem t_of {e : Ex} (h : vE e 1 = 0) : exprT e = tx e := if_pos h
theorem b_cat (a b : Str) : ba a ++ ba b = ba (a ++ b) := bytes_eq (by rw [append_list, oba_list, oba_list, oba_list])
theorem b_lit (a : Str) : (⟨a.toArray⟩ : ByteArray) = ba a := rfl
section
variable {e : Ex} (h : vE e 3 = 0)
include h
theorem say_text : ba (exprT (u1 20 e)) = ⟨#[116, 101, 120, 116, 40]⟩ ++ ba (exprT e) ++ ⟨#[41]⟩ := by
  have h1 : vE (u1 20 e) 1 = 0 := by rw [v_un 20 (by decide) (by decide)]; exact v_up e (by decide) h
  rw [t_of h1, t_of (v_up e (by decide) h), tx_call (by decide)]
  refine bytes_eq ?_
  rw [append_list, append_list, oba_list, oba_list]
  simp [wd]
theorem say_has : ba (exprT (u1 24 e)) = ⟨#[104, 97, 115, 40]⟩ ++ ba (exprT e) ++ ⟨#[41]⟩ := by
  have h1 : vE (u1 24 e) 1 = 0 := by rw [v_un 24 (by decide) (by decide)]; exact v_up e (by decide) h
  rw [t_of h1, t_of (v_up e (by decide) h), tx_call (by decide)]
  refine bytes_eq ?_
  rw [append_list, append_list, oba_list, oba_list]
  simp [wd]
theorem say_len : ba (exprT (u1 18 (u1 21 e))) = ⟨#[110, 111, 116, 32, 108, 101, 110, 40]⟩ ++ ba (exprT e) ++ ⟨#[41]⟩ := by
  have h1 : vE (u1 18 (u1 21 e)) 1 = 0 := by rw [v_un 18 (by decide) (by decide), v_un 21 (by decide) (by decide)]; exact h
  rw [t_of h1, t_of (v_up e (by decide) h), tx_not (u1 21 e) rfl, tx_call (by decide)]
  refine bytes_eq ?_
  rw [append_list, append_list, oba_list, oba_list]
  simp [wd, sNot]
end
/-- three calls -/
structure Three (a b c : Ex) : Prop where
  a9 : lv a.op = 9
  b9 : lv b.op = 9
  c9 : lv c.op = 9
  av : vE a 3 = 0
  bv : vE b 3 = 0
  cv : vE c 3 = 0
theorem three_of {a b c : Ex} (a9 : lv a.op = 9) (b9 : lv b.op = 9) (c9 : lv c.op = 9) (h1 : vE (b2 17 a (b2 17 b c)) 1 = 0) (h2 : vE (b2 17 (b2 17 a b) c) 1 = 0) : Three a b c := by
  obtain ⟨_, h⟩ := (v_bi 17 (by decide) (by decide) (by decide) (by decide) (by decide)).1 h1
  obtain ⟨hb, hc⟩ := (v_bi 17 (by decide) (by decide) (by decide) (by decide) (by decide)).1 h
  obtain ⟨h, _⟩ := (v_bi 17 (by decide) (by decide) (by decide) (by decide) (by decide)).1 h2
  obtain ⟨ha, _⟩ := (v_bi 17 (by decide) (by decide) (by decide) (by decide) (by decide)).1 h
  exact ⟨a9, b9, c9, ha, hb, hc⟩
def sp : ByteArray := ⟨#[32]⟩
section
variable {a b c : Ex} (t : Three a b c)
include t
theorem Three.left {o : Int} (h1 : 4 ≤ o) (h2 : o ≤ 19) (h3 : o ≠ 9) (h4 : o ≠ 18) : vE (b2 o (b2 o a b) c) 1 = 0 :=
  (v_bi o h1 h2 h3 h4 (by decide)).2 ⟨(v_bi o h1 h2 h3 h4 (by decide)).2 ⟨t.av, t.bv⟩, v_up c (by decide) t.cv⟩
theorem Three.right {o : Int} (h1 : 4 ≤ o) (h2 : o ≤ 19) (h3 : o ≠ 9) (h4 : o ≠ 18) : vE (b2 o a (b2 o b c)) 1 = 0 :=
  (v_bi o h1 h2 h3 h4 (by decide)).2 ⟨v_up a (by decide) t.av, (v_bi o h1 h2 h3 h4 (by decide)).2 ⟨t.bv, t.cv⟩⟩
theorem say_left {o : Int} (h1 : 4 ≤ o) (h2 : o ≤ 19) (h3 : o ≠ 9) (h4 : o ≠ 18) (k : lv o ≠ 4) {g : ByteArray} (hg : g.data.toList = sg o) :
    ba (exprT (b2 o (b2 o a b) c)) = ba (exprT a) ++ sp ++ g ++ sp ++ ba (exprT b) ++ sp ++ g ++ sp ++ ba (exprT c) := by
  rw [t_of (t.left h1 h2 h3 h4), t_of (v_up a (by decide) t.av), t_of (v_up b (by decide) t.bv), t_of (v_up c (by decide) t.cv), tx_ll h1 h2 h3 h4 k t.a9 t.b9 t.c9]
  refine bytes_eq ?_
  simp only [append_list, oba_list, hg]
  simp [sp]
theorem say_right {o : Int} (h1 : 4 ≤ o) (h2 : o ≤ 19) (h3 : o ≠ 9) (h4 : o ≠ 18) (k : lv o ≠ 4) {g : ByteArray} (hg : g.data.toList = sg o) :
    ba (exprT (b2 o a (b2 o b c))) = ba (exprT a) ++ sp ++ g ++ ⟨#[32, 40]⟩ ++ ba (exprT b) ++ sp ++ g ++ sp ++ ba (exprT c) ++ ⟨#[41]⟩ := by
  rw [t_of (t.right h1 h2 h3 h4), t_of (v_up a (by decide) t.av), t_of (v_up b (by decide) t.bv), t_of (v_up c (by decide) t.cv), tx_rr h1 h2 h3 h4 k t.a9 t.b9 t.c9]
  refine bytes_eq ?_
  simp only [append_list, oba_list, hg]
  simp [sp]
theorem say_less : ba (exprT (b2 12 (b2 12 a b) c)) = ⟨#[40]⟩ ++ ba (exprT a) ++ ⟨#[32, 60, 32]⟩ ++ ba (exprT b) ++ ⟨#[41, 32, 60, 32]⟩ ++ ba (exprT c) := by
  rw [t_of (t.left (by decide) (by decide) (by decide) (by decide)), t_of (v_up a (by decide) t.av), t_of (v_up b (by decide) t.bv), t_of (v_up c (by decide) t.cv), tx_less t.a9 t.b9 t.c9]
  refine bytes_eq ?_
  simp only [append_list, oba_list]
  simp
theorem say_neg : ba (exprT (u1 9 (u1 9 a))) = ⟨#[45, 45]⟩ ++ ba (exprT a) := by
  have h1 : vE (u1 9 (u1 9 a)) 1 = 0 := by rw [v_un 9 (by decide) (by decide), v_un 9 (by decide) (by decide)]; exact t.av
  rw [t_of h1, t_of (v_up a (by decide) t.av), tx_neg2 a t.a9]
  refine bytes_eq ?_
  simp only [append_list, oba_list]
  simp
end
theorem ok_un {e : Ex} (o : Int) (h1 : 0 ≤ o) (h2 : o ≤ 27) (h : okE e) : okE (u1 o e) := by
  have h0 : (⟨#[]⟩ : ByteArray).size = 0 := rfl
  simp [okE, okEs, h0, h]
  omega
theorem ok_bi {e f : Ex} (o : Int) (h1 : 0 ≤ o) (h2 : o ≤ 27) (h : okE e) (h' : okE f) : okE (b2 o e f) := by
  have h0 : (⟨#[]⟩ : ByteArray).size = 0 := rfl
  simp [okE, okEs, h0, h, h']
  omega
/-- a valid expression's text is short -/
theorem t_len {e : Ex} (ok : okE e) (h : vE e 1 = 0) : (ba (exprT e)).size ≤ 573430 := by
  rw [oba_size, t_of h]
  exact tx_len12 (w_of 12 e 1 rfl h (onB_ok e ok))
end Go.Proofs.YtbmdadhbkdkgmaaDoor.P
