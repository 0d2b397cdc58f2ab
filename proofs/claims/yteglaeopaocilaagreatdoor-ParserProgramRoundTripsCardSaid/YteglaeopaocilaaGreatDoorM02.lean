/-
  Plain mathematics of layer 9, without the program: what Expr, Proc and Program return; the length of a procedure's text.
  Plain mathematics of layer 9, without the program: a valid procedure's text has at most 600 bytes for each node.
  Plain mathematics of layer 9, without the program: the texts of operators over calls.
-/
import Derived.Test.YteglaeopaocilaaGreatDoorM01
namespace Go.Proofs.YteglaeopaocilaaGreatDoor.P
open L (Str)
open A

def exprT (e : Ex) : Str := if vE e 1 = 0 then tx e else []
def procT (p : Pr) : Str := if valE p = 0 then txP p else []
/-- the texts of procedures behind the first one -/
def txLs : List Pr → Str
  | [] => []
  | p :: r => 10 :: (txP p ++ txLs r)
def txL : List Pr → Str
  | [] => []
  | p :: r => txP p ++ txLs r
def progT (l : List Pr) : Str := if l.all (fun p => decide (valE p = 0)) then txL l else []
theorem txLs_app : ∀ a b : List Pr, txLs (a ++ b) = txLs a ++ txLs b
  | [], b => rfl
  | p :: r, b => by rw [List.cons_append, txLs, txLs, txLs_app r b]; simp
/-- one procedure more -/
theorem txL_snoc (l : List Pr) (p : Pr) : txL (l ++ [p]) = if l.length = 0 then txP p else txL l ++ 10 :: txP p := by
  cases l with
  | nil => simp [txL, txLs]
  | cons q r =>
    rw [if_neg (by simp), List.cons_append, txL, txL, txLs_app]
    simp [txLs]
theorem txP_ne (p : Pr) : txP p ≠ [] := by unfold txP kProc; simp
theorem procT_nil {p : Pr} : procT p = [] ↔ valE p ≠ 0 := by
  unfold procT
  by_cases h : valE p = 0
  · rw [if_pos h]; exact ⟨fun x => absurd x (txP_ne p), fun x => absurd h x⟩
  · rw [if_neg h]; exact ⟨fun _ => h, fun _ => rfl⟩
theorem progT_bad {l : List Pr} {p : Pr} (hp : p ∈ l) (h : valE p ≠ 0) : progT l = [] := by
  unfold progT
  rw [if_neg]
  intro x
  exact h (of_decide_eq_true (List.all_eq_true.1 x p hp))
theorem progT_good {l : List Pr} (h : ∀ p ∈ l, valE p = 0) : progT l = txL l := by
  unfold progT
  rw [if_pos]
  exact List.all_eq_true.2 fun p hp => decide_eq_true (h p hp)
/-! ### lengths -/

theorem tyW_len (t : Int) : (tyW t).length ≤ 4 := by
  unfold tyW
  repeat refine ite_len (by decide) ?_
  decide
theorem txPs_len : ∀ {l : List Pm}, (∀ q ∈ l, nam q.name = true ∧ 1 ≤ q.ty ∧ q.ty ≤ 3) → (txPs l).length ≤ 24 * l.length
  | [], _ => Nat.le_refl 0
  | p :: l, hl => by
    have g := txPs_len (l := l) (fun q hq => hl q (List.mem_cons_of_mem _ hq))
    have k := tyW_len p.ty
    have n := nam_len (hl p (List.mem_cons_self ..)).1
    rw [txPs]
    simp only [List.length_cons, List.length_append]
    omega
theorem txPm_len : ∀ {l : List Pm}, (∀ q ∈ l, nam q.name = true ∧ 1 ≤ q.ty ∧ q.ty ≤ 3) → (txPm l).length ≤ 24 * l.length
  | [], _ => Nat.le_refl 0
  | p :: l, hl => by
    have g := txPs_len (l := l) (fun q hq => hl q (List.mem_cons_of_mem _ hq))
    have k := tyW_len p.ty
    have n := nam_len (hl p (List.mem_cons_self ..)).1
    rw [txPm]
    simp only [List.length_cons, List.length_append]
    omega
end Go.Proofs.YteglaeopaocilaaGreatDoor.P
namespace Go.Proofs.YteglaeopaocilaaGreatDoor.P
open L (Str)
open A

theorem pre1 (o n : Int) (s : ByteArray) (r : Bool) : (preE (.mk o n s []) r).length = 1 := by
  rw [preE, preEs]; rfl
theorem pre2 (o n : Int) (s : ByteArray) (a : Ex) (r : Bool) : (preE (.mk o n s [a]) r).length = 1 + (preE a false).length := by
  rw [preE, preEs, preEs, List.length_cons, List.append_nil]; omega
theorem pre3 (o n : Int) (s : ByteArray) (a b : Ex) (r : Bool) : (preE (.mk o n s [a, b]) r).length = 1 + (preE a false).length + (preE b false).length := by
  rw [preE, preEs, preEs, preEs, List.length_cons, List.append_nil, List.length_append]; omega
/-- an expression's text has at most 140 bytes for each node -/
theorem tx_lenN {h : Nat} {e : Ex} (w : W h e) : ∀ r, (tx e).length + 10 ≤ 140 * (preE e r).length := by
  induction w with
  | int h n h1 h2 =>
    intro r
    have := itoa_len h1 h2
    rw [pre1]
    show (Go.Lib.itoa n).length + 10 ≤ _
    omega
  | str h s hp =>
    intro r
    have := quo_len hp
    rw [pre1]
    show (L.quo (str s)).length + 10 ≤ _
    omega
  | var h s hn =>
    intro r
    have := nam_len hn
    rw [pre1]
    show (str s).length + 10 ≤ _
    omega
  | nul h o h1 h2 =>
    intro r
    have := wd_len o
    rw [pre1, tx, txs]
    unfold txN
    rw [if_neg (by omega), if_neg (by omega), if_neg (by omega), List.length_append]
    simp only [List.length_cons, List.length_nil]
    omega
  | neg h o a ho wa ih =>
    intro r
    have l3 := att_len 3 (lv a.op, tx a)
    have l8 := att_len 8 (lv a.op, tx a)
    have := ih false
    rw [pre2, tx, txs, txs]
    unfold txN
    rw [if_neg (by omega), if_neg (by omega), if_neg (by omega)]
    simp only at l3 l8 ⊢
    split
    · rw [List.length_append, List.length_cons, show sNot.length = 3 from rfl]; omega
    · rw [if_pos (by omega), List.length_cons]; omega
  | call h o a h1 h2 wa ih =>
    intro r
    have := wd_len o
    have := ih false
    rw [pre2, tx, txs, txs]
    unfold txN
    rw [if_neg (by omega), if_neg (by omega), if_neg (by omega)]
    simp only
    rw [if_neg (by omega), if_neg (by omega)]
    simp only [List.length_append, List.length_cons, List.length_nil]
    omega
  | bin h o a b h1 h2 h3 h4 wa wb iha ihb =>
    intro r
    have := sg_len o
    have la := fun k => att_len k (lv a.op, tx a)
    have lb := fun k => att_len k (lv b.op, tx b)
    have := iha false
    have := ihb false
    simp only at la lb
    rw [pre3, tx, txs, txs, txs]
    unfold txN
    rw [if_neg (by omega), if_neg (by omega), if_neg (by omega)]
    simp only
    split
    · have := la 5
      have := lb 5
      simp only [List.length_append, List.length_cons]
      omega
    · have := la (lv o)
      have := lb (lv o + 1)
      simp only [List.length_append, List.length_cons]
      omega
theorem w_here {h : Nat} {e : Ex} (w : W h e) : absent e = false := by
  have : e.op ≠ 0 := by
    cases w <;> simp only [Ex.op] <;> omega
  unfold absent
  rw [decide_eq_false this]; rfl
theorem tx_lenR {h : Nat} {e : Ex} (w : W h e) : (tx e).length + 10 ≤ 140 * (preR e).length := by
  unfold preR
  rw [if_neg (by rw [w_here w]; decide)]
  exact tx_lenN w true
theorem preS_len (o : Int) (nm : ByteArray) (mx : Int) (a b : Ex) (bd el : List St) (d : Nat) :
    (preS (.mk o nm mx a b bd el) d).length = 1 + (preR a).length + (preR b).length + (preB bd (d + 1)).length + (preB el (d + 1)).length := by
  rw [preS]
  simp only [List.length_cons, List.length_append]
  omega
theorem txS_lenN {h : Nat} {s : St} (w : WS h s) : ∀ d k, d + h ≤ 13 → (txS s d).length ≤ 600 * (preS s k).length := by
  have blk : ∀ h (l : List St), (∀ s ∈ l, ∀ d k, d + h ≤ 13 → (txS s d).length ≤ 600 * (preS s k).length) → ∀ d k, d + h ≤ 13 → (txB l d).length ≤ 600 * (preB l k).length := by
    intro h l
    induction l with
    | nil => intro _ d k _; rw [txB]; exact Nat.zero_le _
    | cons s l ih =>
      intro hl d k hd
      rw [txB, preB, List.length_append, List.length_append]
      have := hl s (List.mem_cons_self ..) d k hd
      have := ih (fun s hs => hl s (List.mem_cons_of_mem _ hs)) d k hd
      omega
  induction w with
  | dec h nm a hn wa =>
    intro d k hd
    have := nam_len hn
    have := tx_lenR wa
    have := ind_len d
    rw [txS, preS_len, if_pos rfl]
    simp only [List.length_append, List.length_cons, kLet, eos, List.length_nil]
    omega
  | set h nm a hn wa =>
    intro d k hd
    have := nam_len hn
    have := tx_lenR wa
    have := ind_len d
    rw [txS, preS_len, if_neg (by decide), if_pos rfl]
    simp only [List.length_append, List.length_cons, eos, List.length_nil]
    omega
  | put h a b wa wb =>
    intro d k hd
    have := tx_lenR wa
    have := tx_lenR wb
    have := ind_len d
    rw [txS, preS_len, if_neg (by decide), if_neg (by decide), if_pos rfl]
    simp only [List.length_append, List.length_cons, kPut, eos, List.length_nil]
    omega
  | del h a wa =>
    intro d k hd
    have := tx_lenR wa
    have := ind_len d
    rw [txS, preS_len, if_neg (by decide), if_neg (by decide), if_neg (by decide), if_pos rfl]
    simp only [List.length_append, List.length_cons, kDel, eos, List.length_nil]
    omega
  | emit h a wa =>
    intro d k hd
    have := tx_lenR wa
    have := ind_len d
    rw [txS, preS_len, if_neg (by decide), if_neg (by decide), if_neg (by decide), if_neg (by decide), if_pos rfl]
    simp only [List.length_append, List.length_cons, kEmit, eos, List.length_nil]
    omega
  | abort h m h0 h1 =>
    intro d k hd
    have := itoa_len h0 (by omega)
    have := ind_len d
    rw [txS, preS_len, if_neg (by decide), if_neg (by decide), if_neg (by decide), if_neg (by decide), if_neg (by decide), if_pos rfl]
    simp only [List.length_append, List.length_cons, kAbort, eos, List.length_nil]
    omega
  | loop h nm m a b bd hn h1 h2 wa wb _ ih =>
    intro d k hd
    have := nam_len hn
    have := tx_lenR wa
    have := tx_lenR wb
    have := itoa_len (n := m) (by omega) (by omega)
    have := ind_len d
    have := blk h bd ih (d + 1) (k + 1) (by omega)
    rw [txS, preS_len, if_neg (by decide), if_neg (by decide), if_neg (by decide), if_neg (by decide), if_neg (by decide), if_neg (by decide), if_pos rfl]
    simp only [List.length_append, List.length_cons, kFor, kTo, kMax, opb, List.length_nil]
    omega
  | cond h a bd el wa _ _ ih1 ih2 =>
    intro d k hd
    have := tx_lenR wa
    have := ind_len d
    have := blk h bd ih1 (d + 1) (k + 1) (by omega)
    have := blk h el ih2 (d + 1) (k + 1) (by omega)
    rw [txS, preS_len, if_neg (by decide), if_neg (by decide), if_neg (by decide), if_neg (by decide), if_neg (by decide), if_neg (by decide), if_neg (by decide)]
    split
    · simp only [List.length_append, List.length_cons, kIf, opb, List.length_nil]
      omega
    · simp only [List.length_append, List.length_cons, kIf, kElse, opb, List.length_nil]
      omega
theorem txB_lenN {h : Nat} : ∀ {l : List St}, (∀ s ∈ l, WS h s) → ∀ d k, d + h ≤ 13 → (txB l d).length ≤ 600 * (preB l k).length
  | [], _, d, k, _ => by rw [txB]; exact Nat.zero_le _
  | s :: l, hl, d, k, hd => by
    rw [txB, preB, List.length_append, List.length_append]
    have := txS_lenN (hl s (List.mem_cons_self ..)) d k hd
    have := txB_lenN (l := l) (fun s hs => hl s (List.mem_cons_of_mem _ hs)) d k hd
    omega
/-- a valid procedure's text has at most 240200 bytes -/
theorem txP_lenN {p : Pr} (h : valE p = 0) (w : WP p) : (txP p).length ≤ 240200 := by
  obtain ⟨h1, h2, h3, h4⟩ := val_parts h
  have g1 := (par_each h2).1
  have g2 := txPm_len w.params
  have g3 := txB_lenN w.body 1 1 (by decide)
  have g5 := nam_len w.name
  rw [walk_full h4] at h4
  unfold txP
  simp only [List.length_cons, List.length_append, kProc, opb, List.length_nil]
  omega
/-- the text of l valid procedures -/
theorem txLs_lenN : ∀ {l : List Pr}, (∀ p ∈ l, valE p = 0 ∧ WP p) → (txLs l).length ≤ 240201 * l.length
  | [], _ => Nat.le_refl 0
  | p :: r, h => by
    have g := txLs_lenN (l := r) (fun q hq => h q (List.mem_cons_of_mem _ hq))
    have hp := h p (List.mem_cons_self ..)
    have := txP_lenN hp.1 hp.2
    rw [txLs]
    simp only [List.length_cons, List.length_append]
    omega
theorem txL_lenN {l : List Pr} (h : ∀ p ∈ l, valE p = 0 ∧ WP p) : (txL l).length ≤ 240201 * l.length := by
  cases l with
  | nil => exact Nat.le_refl 0
  | cons p r =>
    have g := txLs_lenN (l := r) (fun q hq => h q (List.mem_cons_of_mem _ hq))
    have hp := h p (List.mem_cons_self ..)
    have := txP_lenN hp.1 hp.2
    rw [txL]
    simp only [List.length_cons, List.length_append]
    omega
end Go.Proofs.YteglaeopaocilaaGreatDoor.P
namespace Go.Proofs.YteglaeopaocilaaGreatDoor.P
open L (Str)
open A

abbrev u1 (o : Int) (a : Ex) : Ex := .mk o 0 none8 [a]
abbrev b2 (o : Int) (a b : Ex) : Ex := .mk o 0 none8 [a, b]
/-- a call's text -/
theorem tx_call {o : Int} (h : 20 ≤ o) (a : Ex) : tx (u1 o a) = wd o ++ 40 :: (tx a ++ [41]) := by
  rw [tx, txs, txs]; unfold txN
  rw [if_neg (by omega), if_neg (by omega), if_neg (by omega)]
  simp only
  rw [if_neg (by omega), if_neg (by omega)]
end Go.Proofs.YteglaeopaocilaaGreatDoor.P
