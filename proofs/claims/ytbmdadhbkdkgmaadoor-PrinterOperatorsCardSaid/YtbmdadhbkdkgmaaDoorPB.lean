/-
  Plain mathematics of layer 9, without the program: what the error of a procedure says; how long texts are.
  Plain mathematics of layer 9, without the program: the lines of a valid procedure's text, their indentation, and the blocks that they open and close.
  Plain mathematics of layer 9, without the program: a text read byte by byte, a line checked at each line feed.
-/
import Derived.Test.YtbmdadhbkdkgmaaDoorPA
namespace Go.Proofs.YtbmdadhbkdkgmaaDoor.P
open L (Str)
open A

theorem noE_of {e : Ex} (h : absent e = true) : e = noE := by
  unfold absent at h
  simp only [Bool.and_eq_true, decide_eq_true_iff, List.isEmpty_iff] at h
  obtain ⟨⟨⟨h1, h2⟩, h3⟩, h4⟩ := h
  obtain ⟨o, n, s, l⟩ := e
  simp only [Ex.op, Ex.n, Ex.s, Ex.args] at h1 h2 h3 h4
  rw [h1, h2, h4, size0 h3]
structure Parts (o : Int) (nm : ByteArray) (mx : Int) (a b : Ex) (bd el : List St) : Prop where
  lo : 1 ≤ o
  hi : o ≤ 8
  hnm : uN o = false → nm = none8
  hmx : uM o = false → mx = 0
  ha : uA o = false → a = noE
  hb : uB o = false → b = noE
  hbd : uD o = false → bd = []
  hel : uE o = false → el = []
  six : o = 6 → 1 ≤ mx ∧ mx ≤ 16
  eight : o = 8 → 0 ≤ mx ∧ mx ≤ 999
theorem parts_of' {s : St} {d : Nat} (g : Good s d) : Parts s.op s.name s.mx s.a s.b s.body s.els := by
  have f := g.form
  have m := g.most
  unfold badS at f
  unfold badM at m
  simp only [Bool.or_eq_false_iff, Bool.and_eq_false_iff, Bool.not_eq_false', decide_eq_false_iff_not, decide_eq_true_iff] at f m
  obtain ⟨⟨⟨⟨⟨⟨⟨f1, f2⟩, f3⟩, f4⟩, f5⟩, f6⟩, f7⟩, f8⟩ := f
  obtain ⟨m1, m2⟩ := m
  refine ⟨by omega, by omega, fun h => ?_, fun h => ?_, fun h => ?_, fun h => ?_, fun h => ?_, fun h => ?_, by omega, by omega⟩
  · rw [h] at f3; exact size0 (f3.resolve_left (by decide))
  · rw [h] at f4; exact f4.resolve_left (by decide)
  · rw [h] at f5; exact noE_of (f5.resolve_left (by decide))
  · rw [h] at f6; exact noE_of (f6.resolve_left (by decide))
  · rw [h] at f7; exact List.isEmpty_iff.1 (f7.resolve_left (by decide))
  · rw [h] at f8; exact List.isEmpty_iff.1 (f8.resolve_left (by decide))
theorem parts_of {o : Int} {nm : ByteArray} {mx : Int} {a b : Ex} {bd el : List St} {d : Nat} (g : Good (.mk o nm mx a b bd el) d) : Parts o nm mx a b bd el := parts_of' g
theorem preB_mem {s : St} {v : V} {d : Nat} : ∀ {l : List St}, s ∈ l → v ∈ preS s d → v ∈ preB l d
  | x :: l, hs, hv => by
    rw [preB]
    rcases List.mem_cons.1 hs with rfl | h
    · exact List.mem_append_left _ hv
    · exact List.mem_append_right _ (preB_mem h hv)
theorem ws_of : ∀ (m : Nat) (s : St) (d : Nat), m + d = 13 → (∀ s' d', V.st s' d' ∈ preS s d → stE s' d' = 0 ∧ nB s'.a ∧ nB s'.b) → WS m s
  | m, .mk o nm mx a b bd el, d, hm, h => by
    have h0 := h (.mk o nm mx a b bd el) d (by rw [preS]; exact List.mem_cons_self ..)
    have g := good_of h0.1
    have p := parts_of g
    have hd := g.depth
    obtain ⟨m, rfl⟩ : ∃ k, m = k + 1 := ⟨m - 1, by omega⟩
    have hb : ∀ s ∈ bd, WS m s := fun s hs => ws_of m s (d + 1) (by omega) fun s' d' hv => h s' d' (by
      rw [preS]
      exact List.mem_cons_of_mem _ (List.mem_append_left _ (List.mem_append_right _ (preB_mem hs hv))))
    have he : ∀ s ∈ el, WS m s := fun s hs => ws_of m s (d + 1) (by omega) fun s' d' hv => h s' d' (by
      rw [preS]
      exact List.mem_cons_of_mem _ (List.mem_append_right _ (preB_mem hs hv)))
    have xa : uA o = true → W 12 a := fun x => w_of 12 a 1 rfl (g.a x) h0.2.1
    have xb : uB o = true → W 12 b := fun x => w_of 12 b 1 rfl (g.b x) h0.2.2
    have lo := p.lo
    have hi := p.hi
    have : o = 1 ∨ o = 2 ∨ o = 3 ∨ o = 4 ∨ o = 5 ∨ o = 6 ∨ o = 7 ∨ o = 8 := by omega
    rcases this with rfl | rfl | rfl | rfl | rfl | rfl | rfl | rfl
    · rw [p.hmx rfl, p.hb rfl, p.hbd rfl, p.hel rfl]; exact .dec m nm a (g.name rfl) (xa rfl)
    · rw [p.hmx rfl, p.hb rfl, p.hbd rfl, p.hel rfl]; exact .set m nm a (g.name rfl) (xa rfl)
    · rw [p.hnm rfl, p.hmx rfl, p.hbd rfl, p.hel rfl]; exact .put m a b (xa rfl) (xb rfl)
    · rw [p.hnm rfl, p.hmx rfl, p.hb rfl, p.hbd rfl, p.hel rfl]; exact .del m a (xa rfl)
    · rw [p.hnm rfl, p.hmx rfl, p.hb rfl]; exact .cond m a bd el (xa rfl) hb he
    · rw [p.hel rfl]; exact .loop m nm mx a b bd (g.name rfl) (p.six rfl).1 (p.six rfl).2 (xa rfl) (xb rfl) hb
    · rw [p.hnm rfl, p.hmx rfl, p.hb rfl, p.hbd rfl, p.hel rfl]; exact .emit m a (xa rfl)
    · rw [p.hnm rfl, p.ha rfl, p.hb rfl, p.hbd rfl, p.hel rfl]; exact .abort m mx (p.eight rfl).1 (p.eight rfl).2
theorem parF_ty : ∀ (l : List Pm) (seen : List ByteArray), parF seen l = 0 → ∀ q ∈ l, nam q.name = true ∧ 1 ≤ q.ty ∧ q.ty ≤ 3
  | p :: r, seen, h, q, hq => by
    rw [parF] at h
    cases h1 : nam p.name
    · rw [if_pos h1] at h; cases h
    · rw [if_neg (by rw [h1]; decide)] at h
      by_cases h2 : p.ty < 1 ∨ 3 < p.ty
      · rw [if_pos h2] at h; cases h
      · rw [if_neg h2] at h
        by_cases h3 : seen.any (fun x => decide (x = p.name)) = true
        · rw [if_pos h3] at h; cases h
        · rw [if_neg h3] at h
          rcases List.mem_cons.1 hq with rfl | h4
          · exact ⟨h1, by omega, by omega⟩
          · exact parF_ty r _ h q h4
/-- a procedure without an error is valid -/
theorem wp_of {p : Pr} (h : valE p = 0) (hb : ∀ s d, V.st s d ∈ preB p.body 1 → nB s.a ∧ nB s.b) : WP p := by
  obtain ⟨h1, h2, h3, h4⟩ := val_parts h
  rw [walk_full h4] at h3
  refine ⟨h1, ?_, fun s hs => ?_⟩
  · unfold parE at h2
    by_cases h6 : 6 < p.params.length
    · rw [if_pos h6] at h2; cases h2
    · rw [if_neg h6] at h2; exact parF_ty _ _ h2
  · exact ws_of 12 s 1 rfl fun s' d' hv => ⟨first_each h3 s' d' (preB_mem hs hv), hb s' d' (preB_mem hs hv)⟩

/-! ### lengths -/

theorem str_len (s : ByteArray) : (str s).length = s.size := rfl
theorem nam_len {s : ByteArray} (h : nam s = true) : (str s).length ≤ 16 := (L.isName_iff.1 h).1
theorem ite_len {c : Prop} [Decidable c] {a b : Str} {n : Nat} (ha : a.length ≤ n) (hb : b.length ≤ n) : (if c then a else b).length ≤ n := by
  by_cases h : c
  · rw [if_pos h]; exact ha
  · rw [if_neg h]; exact hb
theorem sg_len (o : Int) : (sg o).length ≤ 3 := by
  unfold sg
  repeat refine ite_len (by decide) ?_
  decide
theorem wd_len (o : Int) : (wd o).length ≤ 6 := by
  unfold wd
  repeat (split; decide)
  decide
theorem dec_len : ∀ (k n : Nat), n < 10 ^ (k + 1) → (Go.Lib.decDigits n).length ≤ k + 1
  | 0, n, h => by
    have h1 : n < 10 := by simpa using h
    rw [Go.Lib.decDigits, dif_pos h1]; simp
  | k + 1, n, h => by
    rw [Go.Lib.decDigits]
    split
    · simp
    · rw [List.length_append]
      have := dec_len k (n / 10) (by rw [Nat.pow_succ] at h; omega)
      simp; omega
theorem itoa_len {n : Int} (h0 : 0 ≤ n) (h : n ≤ 9223372036854775807) : (Go.Lib.itoa n).length ≤ 19 := by
  rw [L.itoa_nat h0]
  exact dec_len 18 _ (by omega)
theorem quo_len {s : ByteArray} (h : plain s = true) : (L.quo (str s)).length ≤ 130 := by
  unfold plain at h
  rw [Bool.and_eq_true] at h
  have h1 := of_decide_eq_true h.1
  have h2 := L.esc_len (str s)
  have h3 := str_len s
  unfold L.quo
  simp only [List.length_cons, List.length_append, List.length_nil]
  omega
theorem att_len (k : Nat) (p : Nat × Str) : (att k p).length ≤ p.2.length + 2 := by
  unfold att
  split
  · simp
  · omega
theorem tx_len {h : Nat} {e : Ex} (w : W h e) : (tx e).length + 10 ≤ 140 * 2 ^ h := by
  have two : ∀ h : Nat, 1 ≤ 2 ^ h := fun h => Nat.one_le_two_pow
  induction w with
  | int h n h1 h2 =>
    have := itoa_len h1 h2
    have := two h
    show (Go.Lib.itoa n).length + 10 ≤ _
    rw [Nat.pow_succ]; omega
  | str h s hp =>
    have := quo_len hp
    have := two h
    show (L.quo (str s)).length + 10 ≤ _
    rw [Nat.pow_succ]; omega
  | var h s hn =>
    have := nam_len hn
    have := two h
    show (str s).length + 10 ≤ _
    rw [Nat.pow_succ]; omega
  | nul h o h1 h2 =>
    have := wd_len o
    have := two h
    rw [tx, txs]
    unfold txN
    rw [if_neg (by omega), if_neg (by omega), if_neg (by omega), List.length_append, Nat.pow_succ]
    simp only [List.length_cons, List.length_nil]
    omega
  | neg h o a ho wa ih =>
    have l3 := att_len 3 (lv a.op, tx a)
    have l8 := att_len 8 (lv a.op, tx a)
    rw [tx, txs, txs]
    unfold txN
    rw [if_neg (by omega), if_neg (by omega), if_neg (by omega), Nat.pow_succ]
    simp only at l3 l8 ⊢
    split
    · rw [List.length_append, List.length_cons, show sNot.length = 3 from rfl]; omega
    · rw [if_pos (by omega), List.length_cons]; omega
  | call h o a h1 h2 wa ih =>
    have := wd_len o
    rw [tx, txs, txs]
    unfold txN
    rw [if_neg (by omega), if_neg (by omega), if_neg (by omega), Nat.pow_succ]
    simp only
    rw [if_neg (by omega), if_neg (by omega)]
    simp only [List.length_append, List.length_cons, List.length_nil]
    omega
  | bin h o a b h1 h2 h3 h4 wa wb iha ihb =>
    have := sg_len o
    have la := fun k => att_len k (lv a.op, tx a)
    have lb := fun k => att_len k (lv b.op, tx b)
    simp only at la lb
    rw [tx, txs, txs, txs]
    unfold txN
    rw [if_neg (by omega), if_neg (by omega), if_neg (by omega), Nat.pow_succ]
    simp only
    split
    · have := la 5
      have := lb 5
      simp only [List.length_append, List.length_cons]
      omega
    · have := la (lv o)
      have := lb (lv o + 1)
      simp only [List.length_append, List.length_cons]
      omega
theorem tx_len12 {e : Ex} (w : W 12 e) : (tx e).length ≤ 573430 := by have := tx_len w; omega
/-! the number of statements -/
mutual
def nS : St → Nat
  | .mk _ _ _ _ _ bd el => 1 + nSs bd + nSs el
def nSs : List St → Nat
  | [] => 0
  | s :: r => nS s + nSs r
end
mutual
theorem nS_pre : ∀ (s : St) (d : Nat), nS s ≤ (preS s d).length
  | .mk o nm mx a b bd el, d => by
    rw [nS, preS]
    have h1 := nSs_pre bd (d + 1)
    have h2 := nSs_pre el (d + 1)
    simp only [List.length_cons, List.length_append]
    omega
theorem nSs_pre : ∀ (l : List St) (d : Nat), nSs l ≤ (preB l d).length
  | [], d => Nat.zero_le _
  | s :: r, d => by
    rw [nSs, preB, List.length_append]
    have h1 := nS_pre s d
    have h2 := nSs_pre r d
    omega
end
theorem ind_len (d : Nat) : (ind d).length = 4 * d := List.length_replicate
theorem txS_len {h : Nat} {s : St} (w : WS h s) : ∀ d, d + h ≤ 100 → (txS s d).length ≤ 1200000 * nS s := by
  have blk : ∀ h (l : List St), (∀ s ∈ l, ∀ d, d + h ≤ 100 → (txS s d).length ≤ 1200000 * nS s) → ∀ d, d + h ≤ 100 → (txB l d).length ≤ 1200000 * nSs l := by
    intro h l
    induction l with
    | nil => intro _ d _; rw [txB]; exact Nat.zero_le _
    | cons s l ih =>
      intro hl d hd
      rw [txB, nSs, List.length_append]
      have := hl s (List.mem_cons_self ..) d hd
      have := ih (fun s hs => hl s (List.mem_cons_of_mem _ hs)) d hd
      omega
  induction w with
  | dec h nm a hn wa =>
    intro d hd
    have := nam_len hn
    have := tx_len12 wa
    have := ind_len d
    rw [txS, nS, if_pos rfl]
    simp only [List.length_append, List.length_cons, kLet, eos, List.length_nil]
    omega
  | set h nm a hn wa =>
    intro d hd
    have := nam_len hn
    have := tx_len12 wa
    have := ind_len d
    rw [txS, nS, if_neg (by decide), if_pos rfl]
    simp only [List.length_append, List.length_cons, eos, List.length_nil]
    omega
  | put h a b wa wb =>
    intro d hd
    have := tx_len12 wa
    have := tx_len12 wb
    have := ind_len d
    rw [txS, nS, if_neg (by decide), if_neg (by decide), if_pos rfl]
    simp only [List.length_append, List.length_cons, kPut, eos, List.length_nil]
    omega
  | del h a wa =>
    intro d hd
    have := tx_len12 wa
    have := ind_len d
    rw [txS, nS, if_neg (by decide), if_neg (by decide), if_neg (by decide), if_pos rfl]
    simp only [List.length_append, List.length_cons, kDel, eos, List.length_nil]
    omega
  | emit h a wa =>
    intro d hd
    have := tx_len12 wa
    have := ind_len d
    rw [txS, nS, if_neg (by decide), if_neg (by decide), if_neg (by decide), if_neg (by decide), if_pos rfl]
    simp only [List.length_append, List.length_cons, kEmit, eos, List.length_nil]
    omega
  | abort h m h0 h1 =>
    intro d hd
    have := itoa_len h0 (by omega)
    have := ind_len d
    rw [txS, nS, if_neg (by decide), if_neg (by decide), if_neg (by decide), if_neg (by decide), if_neg (by decide), if_pos rfl]
    simp only [List.length_append, List.length_cons, kAbort, eos, List.length_nil]
    omega
  | loop h nm m a b bd hn h1 h2 wa wb _ ih =>
    intro d hd
    have := nam_len hn
    have := tx_len12 wa
    have := tx_len12 wb
    have := itoa_len (n := m) (by omega) (by omega)
    have := ind_len d
    have := blk h bd ih (d + 1) (by omega)
    rw [txS, nS, if_neg (by decide), if_neg (by decide), if_neg (by decide), if_neg (by decide), if_neg (by decide), if_neg (by decide), if_pos rfl]
    simp only [List.length_append, List.length_cons, kFor, kTo, kMax, opb, List.length_nil]
    omega
  | cond h a bd el wa _ _ ih1 ih2 =>
    intro d hd
    have := tx_len12 wa
    have := ind_len d
    have := blk h bd ih1 (d + 1) (by omega)
    have := blk h el ih2 (d + 1) (by omega)
    rw [txS, nS, if_neg (by decide), if_neg (by decide), if_neg (by decide), if_neg (by decide), if_neg (by decide), if_neg (by decide), if_neg (by decide)]
    split
    · simp only [List.length_append, List.length_cons, kIf, opb, List.length_nil]
      omega
    · simp only [List.length_append, List.length_cons, kIf, kElse, opb, List.length_nil]
      omega
end Go.Proofs.YtbmdadhbkdkgmaaDoor.P
namespace Go.Proofs.YtbmdadhbkdkgmaaDoor.P
open L (Str prt)
open A

/-- the number of leading spaces -/
def lead : Str → Nat
  | [] => 0
  | c :: r => if c = 32 then lead r + 1 else 0
/-- the blocks that are open behind a line, or none if the line is wrong; n lines have been read, this one among them -/
def okLine (op n : Int) (l : Str) : Option Int :=
  if lead l = l.length then none
  else if (lead l : Int) ≠ 4 * (if l[lead l]? = some 125 then op - 1 else op) ∨ ((if l[lead l]? = some 125 then op - 1 else op) = 0 ∧ 1 < n ∧ l ≠ [125]) then none
  else if l.getLast? = some 123 then some ((if l[lead l]? = some 125 then op - 1 else op) + 1)
  else if l.getLast? = some 59 ∨ l.getLast? = some 125 then some (if l[lead l]? = some 125 then op - 1 else op)
  else none
def runL : Int → Int → List Str → Option (Int × Int)
  | op, n, [] => some (op, n)
  | op, n, l :: r => match okLine op (n + 1) l with
    | none => none
    | some op' => runL op' (n + 1) r
def unl : List Str → Str
  | [] => []
  | l :: r => l ++ 10 :: unl r
theorem unl_app : ∀ a b : List Str, unl (a ++ b) = unl a ++ unl b
  | [], b => rfl
  | l :: r, b => by rw [List.cons_append, unl, unl, unl_app r b, List.append_assoc, List.cons_append]
theorem runL_app : ∀ (a b : List Str) (op n op2 n2 : Int), runL op n a = some (op2, n2) → runL op n (a ++ b) = runL op2 n2 b
  | [], b, op, n, op2, n2, h => by
    rw [runL] at h
    injection h with h
    injection h with h1 h2
    rw [List.nil_append, h1, h2]
  | l :: r, b, op, n, op2, n2, h => by
    rw [List.cons_append, runL]
    rw [runL] at h
    cases ho : okLine op (n + 1) l with
    | none => rw [ho] at h; cases h
    | some x => rw [ho] at h; exact runL_app r b x (n + 1) op2 n2 h
theorem lead_ind : ∀ (k : Nat) (c : UInt8) (m : Str), c ≠ 32 → lead (List.replicate k 32 ++ c :: m) = k ∧ (List.replicate k (32 : UInt8) ++ c :: m)[k]? = some c
  | 0, c, m, h => by
    rw [List.replicate_zero, List.nil_append, lead, if_neg h]
    exact ⟨rfl, rfl⟩
  | k + 1, c, m, h => by
    obtain ⟨h1, h2⟩ := lead_ind k c m h
    rw [List.replicate_succ, List.cons_append, lead, if_pos rfl, h1, List.getElem?_cons_succ]
    exact ⟨rfl, h2⟩
/-- a line with its indentation and its last byte -/
theorem ok_line {d : Nat} {c x : UInt8} {m : Str} {op n op1 : Int} (hc : c ≠ 32) (hx : (c :: m).getLast? = some x) (h1 : op1 = if c = 125 then op - 1 else op) (hd : op1 = d) (hz : 1 ≤ d ∨ n ≤ 1 ∨ ind d ++ c :: m = [125]) (h2 : x = 123 ∨ x = 59 ∨ x = 125) :
    okLine op n (ind d ++ c :: m) = some (if x = 123 then op1 + 1 else op1) := by
  obtain ⟨g1, g2⟩ := lead_ind (4 * d) c m hc
  have gl : (ind d ++ c :: m).getLast? = some x := by rw [List.getLast?_append, hx]; rfl
  have e : (if (ind d ++ c :: m)[lead (ind d ++ c :: m)]? = some 125 then op - 1 else op) = op1 := by
    unfold ind
    rw [g1, g2, h1]
    by_cases h : c = 125
    · rw [if_pos (by rw [h]), if_pos h]
    · rw [if_neg (by simpa using h), if_neg h]
  have g3 : lead (ind d ++ c :: m) = 4 * d := g1
  unfold okLine
  rw [e, gl, g3, if_neg (by simp only [List.length_append, List.length_cons, ind_len]; omega), if_neg ?_]
  · rcases h2 with rfl | rfl | rfl
    · rw [if_pos rfl, if_pos rfl]
    · rw [if_neg (by decide), if_pos (Or.inl rfl), if_neg (by decide)]
    · rw [if_neg (by decide), if_pos (Or.inr rfl), if_neg (by decide)]
  · rintro (h | ⟨h, h3, h4⟩)
    · omega
    · rcases hz with hz | hz | hz
      · omega
      · omega
      · exact h4 hz
/-- a text of whole lines behind which e blocks are open, if d are open before -/
def Moves (d e : Nat) (s : Str) : Prop := ∃ ls, s = unl ls ∧ (∀ l ∈ ls, (10 : UInt8) ∉ l) ∧ ∀ n : Int, 1 ≤ n → runL d n ls = some ((e : Int), n + ls.length)
theorem Moves.nil (d : Nat) : Moves d d [] := ⟨[], rfl, fun l h => (by cases h), fun n _ => by simp [runL]⟩
theorem Moves.app {d e f : Nat} {s t : Str} (h : Moves d e s) (h2 : Moves e f t) : Moves d f (s ++ t) := by
  obtain ⟨a, rfl, a2, a3⟩ := h
  obtain ⟨b, rfl, b2, b3⟩ := h2
  refine ⟨a ++ b, (unl_app a b).symm, fun l hl => (List.mem_append.1 hl).elim (a2 l) (b2 l), fun n hn => ?_⟩
  rw [runL_app a b _ _ _ _ (a3 n hn), b3 _ (by omega), List.length_append]
  congr 2; omega
theorem no_lf {d : Nat} {m : Str} (hp : m.all prt = true) : (10 : UInt8) ∉ ind d ++ m := by
  intro h
  rcases List.mem_append.1 h with h | h
  · have := (List.mem_replicate.1 h).2; cases this
  · have := L.prt_iff.1 (List.all_eq_true.1 hp _ h); simp at this
/-- one line -/
theorem Moves.line {d e f : Nat} {c x : UInt8} {m : Str} (hc : c ≠ 32) (hx : (c :: m).getLast? = some x) (hp : (c :: m).all prt = true) (h1 : (e : Int) = if c = 125 then (d : Int) - 1 else d) (hz : 1 ≤ e) (h2 : x = 123 ∨ x = 59 ∨ x = 125) (hf : f = if x = 123 then e + 1 else e) : Moves d f (ind e ++ (c :: m ++ [10])) := by
  refine ⟨[ind e ++ c :: m], ?_, ?_, fun n hn => ?_⟩
  · simp [unl]
  · intro l hl
    rw [List.mem_singleton.1 hl]
    exact no_lf hp
  · rw [runL, ok_line hc hx h1 rfl (Or.inl hz) h2, hf]
    simp only [runL, List.length_singleton]
    by_cases h : x = 123
    · rw [if_pos h, if_pos h]; rfl
    · rw [if_neg h, if_neg h]; rfl
theorem last_app {l : Str} {x : UInt8} : (l ++ [x]).getLast? = some x := by rw [List.getLast?_append]; rfl
/-- a line that ends in ";" -/
theorem Moves.semi {d : Nat} {c : UInt8} {m : Str} (hd : 1 ≤ d) (hc : c ≠ 32) (hc2 : c ≠ 125) (hp : (c :: m).all prt = true) : Moves d d (ind d ++ (c :: m ++ eos)) := by
  have := Moves.line (d := d) (e := d) (f := d) (c := c) (x := 59) (m := m ++ [59]) hc (by rw [← List.cons_append]; exact last_app) (by rw [← List.cons_append, List.all_append, hp]; rfl) (by rw [if_neg hc2]) hd (Or.inr (Or.inl rfl)) rfl
  rw [List.cons_append, List.append_assoc] at this
  exact this
/-- a line that opens a block -/
theorem Moves.opens {d : Nat} {c : UInt8} {m : Str} (hd : 1 ≤ d) (hc : c ≠ 32) (hc2 : c ≠ 125) (hp : (c :: m).all prt = true) : Moves d (d + 1) (ind d ++ (c :: m ++ opb)) := by
  have := Moves.line (d := d) (e := d) (f := d + 1) (c := c) (x := 123) (m := m ++ [32, 123]) hc (by rw [← List.cons_append, List.getLast?_append]; rfl) (by rw [← List.cons_append, List.all_append, hp]; rfl) (by rw [if_neg hc2]) hd (Or.inl rfl) rfl
  rw [List.cons_append, List.append_assoc] at this
  exact this
/-- a line that closes a block -/
theorem Moves.closes {d : Nat} (hd : 1 ≤ d) : Moves (d + 1) d (ind d ++ [125, 10]) :=
  Moves.line (d := d + 1) (e := d) (f := d) (c := 125) (x := 125) (m := []) (by decide) rfl (by decide) (by rw [if_pos rfl]; omega) hd (Or.inr (Or.inr rfl)) rfl
/-- a line that closes a block and opens another -/
theorem Moves.turns {d : Nat} (hd : 1 ≤ d) : Moves (d + 1) (d + 1) (ind d ++ (125 :: 32 :: (kElse ++ opb))) := by
  have := Moves.line (d := d + 1) (e := d) (f := d + 1) (c := 125) (x := 123) (m := 32 :: (kElse ++ [32, 123])) (by decide) rfl (by decide) (by rw [if_pos rfl]; omega) hd (Or.inl rfl) rfl
  simpa [opb] using this

/-! ### the bytes of a text are printable -/

theorem att_prt {k : Nat} {p : Nat × Str} (h : p.2.all prt = true) : (att k p).all prt = true := by
  unfold att
  split
  · rw [List.all_cons, List.all_append, h]; rfl
  · exact h
theorem nam_prt {s : ByteArray} (h : nam s = true) : (str s).all prt = true := L.all_imp (fun _ => L.part_prt) (L.isName_iff.1 h).2.2.1
theorem itoa_prt {n : Int} (h : 0 ≤ n) : (Go.Lib.itoa n).all prt = true := by
  obtain ⟨c, z, e, hd, hp⟩ := L.dec_cons n.natAbs
  rw [L.itoa_nat h, e]
  exact L.all_imp (fun _ => L.part_prt) hp
theorem kw_prt {w : Str} (h : w ∈ L.keywords) : w.all prt = true := L.all_imp (fun _ => L.part_prt) (L.kw_all w h).2.1
theorem sg_prt {o : Int} (h : 4 ≤ o) (h2 : o ≤ 19) (h3 : o ≠ 9) (h4 : o ≠ 18) : (sg o).all prt = true := by
  have : o = 4 ∨ o = 5 ∨ o = 6 ∨ o = 7 ∨ o = 8 ∨ o = 10 ∨ o = 11 ∨ o = 12 ∨ o = 13 ∨ o = 14 ∨ o = 15 ∨ o = 16 ∨ o = 17 ∨ o = 19 := by omega
  rcases this with rfl | rfl | rfl | rfl | rfl | rfl | rfl | rfl | rfl | rfl | rfl | rfl | rfl | rfl <;> decide
theorem tx_prt {h : Nat} {e : Ex} (w : W h e) : (tx e).all prt = true := by
  induction w with
  | int h n h1 h2 => exact itoa_prt h1
  | str h s hp =>
    unfold plain at hp
    rw [Bool.and_eq_true] at hp
    show (L.quo (str s)).all prt = true
    unfold L.quo
    have : (L.esc (str s)).all prt = true := L.esc_prt hp.2
    rw [List.all_cons, List.all_append, this]; rfl
  | var h s hn => exact nam_prt hn
  | nul h o h1 h2 =>
    rw [tx, txs]
    unfold txN
    rw [if_neg (by omega), if_neg (by omega), if_neg (by omega)]
    simp only
    rw [List.all_append, kw_prt (wd_kw (by omega) h2)]; rfl
  | neg h o a ho wa ih =>
    have i3 := att_prt (k := 3) (p := (lv a.op, tx a)) ih
    have i8 := att_prt (k := 8) (p := (lv a.op, tx a)) ih
    rw [tx, txs, txs]
    unfold txN
    rw [if_neg (by omega), if_neg (by omega), if_neg (by omega)]
    simp only
    split
    · rw [List.all_append, List.all_cons, i3]; rfl
    · rw [if_pos (by omega), List.all_cons, i8]; rfl
  | call h o a h1 h2 wa ih =>
    rw [tx, txs, txs]
    unfold txN
    rw [if_neg (by omega), if_neg (by omega), if_neg (by omega)]
    simp only
    rw [if_neg (by omega), if_neg (by omega), List.all_append, List.all_cons, List.all_append, ih, kw_prt (wd_kw h1 (by omega))]; rfl
  | bin h o a b h1 h2 h3 h4 wa wb iha ihb =>
    have ia := fun k => att_prt (k := k) (p := (lv a.op, tx a)) iha
    have ib := fun k => att_prt (k := k) (p := (lv b.op, tx b)) ihb
    have is := sg_prt h1 h2 h3 h4
    rw [tx, txs, txs, txs]
    unfold txN
    rw [if_neg (by omega), if_neg (by omega), if_neg (by omega)]
    simp only
    split
    · rw [List.all_append, List.all_cons, List.all_append, List.all_cons, ia, ib, is]; rfl
    · rw [List.all_append, List.all_cons, List.all_append, List.all_cons, ia, ib, is]; rfl

/-! ### statements -/

theorem nam_head {s : ByteArray} (h : nam s = true) : ∃ c r, str s = c :: r ∧ c ≠ 32 ∧ c ≠ 125 := by
  have h2 := (L.isName_iff.1 h).2.1
  unfold str
  cases hs : s.data.toList with
  | nil => rw [hs] at h2; cases h2
  | cons c r =>
    rw [hs] at h2
    have := L.letter_iff.1 h2
    exact ⟨c, r, rfl, fun e => by rw [e] at this; simp at this, fun e => by rw [e] at this; simp at this⟩
theorem txS_mv {h : Nat} {s : St} (w : WS h s) : ∀ d, 1 ≤ d → Moves d d (txS s d) := by
  have blk : ∀ l : List St, (∀ s ∈ l, ∀ d, 1 ≤ d → Moves d d (txS s d)) → ∀ d, 1 ≤ d → Moves d d (txB l d) := by
    intro l
    induction l with
    | nil => intro _ d _; rw [txB]; exact .nil d
    | cons s l ih =>
      intro hl d hd
      rw [txB]
      exact (hl s (List.mem_cons_self ..) d hd).app (ih (fun s hs => hl s (List.mem_cons_of_mem _ hs)) d hd)
  induction w with
  | dec h nm a hn wa =>
    intro d hd
    rw [txS, if_pos rfl]
    have := Moves.semi (d := d) (c := 108) (m := 101 :: 116 :: 32 :: (str nm ++ 32 :: 61 :: 32 :: tx a)) hd (by decide) (by decide) (by simp [nam_prt hn, tx_prt wa]; decide)
    simpa [kLet] using this
  | set h nm a hn wa =>
    intro d hd
    rw [txS, if_neg (by decide), if_pos rfl]
    obtain ⟨c, r, e, h1, h2⟩ := nam_head hn
    have hp := nam_prt hn
    rw [e] at hp ⊢
    have := Moves.semi (d := d) (c := c) (m := r ++ 32 :: 61 :: 32 :: tx a) hd h1 h2 (by rw [← List.cons_append, List.all_append, hp]; simp [tx_prt wa]; decide)
    simpa using this
  | put h a b wa wb =>
    intro d hd
    rw [txS, if_neg (by decide), if_neg (by decide), if_pos rfl]
    have := Moves.semi (d := d) (c := 112) (m := 117 :: 116 :: 32 :: (tx a ++ 32 :: 61 :: 32 :: tx b)) hd (by decide) (by decide) (by simp [tx_prt wa, tx_prt wb]; decide)
    simpa [kPut] using this
  | del h a wa =>
    intro d hd
    rw [txS, if_neg (by decide), if_neg (by decide), if_neg (by decide), if_pos rfl]
    have := Moves.semi (d := d) (c := 100) (m := 101 :: 108 :: 101 :: 116 :: 101 :: 32 :: tx a) hd (by decide) (by decide) (by simp [tx_prt wa]; decide)
    simpa [kDel] using this
  | emit h a wa =>
    intro d hd
    rw [txS, if_neg (by decide), if_neg (by decide), if_neg (by decide), if_neg (by decide), if_pos rfl]
    have := Moves.semi (d := d) (c := 101) (m := 109 :: 105 :: 116 :: 32 :: tx a) hd (by decide) (by decide) (by simp [tx_prt wa]; decide)
    simpa [kEmit] using this
  | abort h m h0 h1 =>
    intro d hd
    rw [txS, if_neg (by decide), if_neg (by decide), if_neg (by decide), if_neg (by decide), if_neg (by decide), if_pos rfl]
    have := Moves.semi (d := d) (c := 97) (m := 98 :: 111 :: 114 :: 116 :: 32 :: Go.Lib.itoa m) hd (by decide) (by decide) (by simp [itoa_prt h0]; decide)
    simpa [kAbort] using this
  | loop h nm m a b bd hn h1 h2 wa wb _ ih =>
    intro d hd
    rw [txS, if_neg (by decide), if_neg (by decide), if_neg (by decide), if_neg (by decide), if_neg (by decide), if_neg (by decide), if_pos rfl]
    have := (Moves.opens (d := d) (c := 102) (m := 111 :: 114 :: 32 :: (str nm ++ 32 :: 61 :: 32 :: (tx a ++ 32 :: 116 :: 111 :: 32 :: (tx b ++ 32 :: 109 :: 97 :: 120 :: 32 :: Go.Lib.itoa m)))) hd (by decide) (by decide) (by simp [nam_prt hn, tx_prt wa, tx_prt wb, itoa_prt (show 0 ≤ m by omega)]; decide)).app ((blk bd ih (d + 1) (by omega)).app (Moves.closes hd))
    simpa [kFor, kTo, kMax] using this
  | cond h a bd el wa _ _ ih1 ih2 =>
    intro d hd
    rw [txS, if_neg (by decide), if_neg (by decide), if_neg (by decide), if_neg (by decide), if_neg (by decide), if_neg (by decide), if_neg (by decide)]
    have h0 := (Moves.opens (d := d) (c := 105) (m := 102 :: 32 :: tx a) hd (by decide) (by decide) (by simp [tx_prt wa]; decide)).app (blk bd ih1 (d + 1) (by omega))
    by_cases he : el.isEmpty = true
    · rw [if_pos he]
      simpa [kIf] using h0.app (Moves.closes hd)
    · rw [if_neg he]
      simpa [kIf] using h0.app ((Moves.turns hd).app ((blk el ih2 (d + 1) (by omega)).app (Moves.closes hd)))
theorem txB_mv {h : Nat} : ∀ {l : List St}, (∀ s ∈ l, WS h s) → ∀ d, 1 ≤ d → Moves d d (txB l d)
  | [], _, d, _ => by rw [txB]; exact .nil d
  | s :: l, hl, d, hd => by
    rw [txB]
    exact (txS_mv (hl s (List.mem_cons_self ..)) d hd).app (txB_mv (fun s hs => hl s (List.mem_cons_of_mem _ hs)) d hd)

/-! ### procedures -/

theorem txPs_prt : ∀ {l : List Pm}, (∀ q ∈ l, nam q.name = true ∧ 1 ≤ q.ty ∧ q.ty ≤ 3) → (txPs l).all prt = true
  | [], _ => rfl
  | p :: l, hl => by
    have g := txPs_prt (l := l) (fun q hq => hl q (List.mem_cons_of_mem _ hq))
    have k := kw_prt (tyW_kw (t := p.ty))
    have n := nam_prt (hl p (List.mem_cons_self ..)).1
    rw [txPs]
    simp only [List.all_cons, List.all_append, g, k, n]; rfl
theorem txPm_prt : ∀ {l : List Pm}, (∀ q ∈ l, nam q.name = true ∧ 1 ≤ q.ty ∧ q.ty ≤ 3) → (txPm l).all prt = true
  | [], _ => rfl
  | p :: l, hl => by
    have g := txPs_prt (l := l) (fun q hq => hl q (List.mem_cons_of_mem _ hq))
    have k := kw_prt (tyW_kw (t := p.ty))
    have n := nam_prt (hl p (List.mem_cons_self ..)).1
    rw [txPm]
    simp only [List.all_cons, List.all_append, g, k, n]; rfl
/-- the lines of a valid procedure's text -/
theorem txP_run {p : Pr} (w : WP p) : ∃ ls, txP p = unl ls ∧ (∀ l ∈ ls, (10 : UInt8) ∉ l) ∧ runL 0 0 ls = some (0, (ls.length : Int)) ∧ 2 ≤ ls.length ∧ ∃ t, txP p = kProc ++ 32 :: t ∧ 1 ≤ t.length := by
  obtain ⟨bs, e1, e2, e3⟩ := txB_mv w.body 1 (Nat.le_refl 1)
  have hp : (112 :: (114 :: 111 :: 99 :: 32 :: (str p.name ++ 40 :: (txPm p.params ++ 41 :: [32, 123])))).all prt = true := by
    simp only [List.all_cons, List.all_append, nam_prt w.name, txPm_prt w.params]; decide
  refine ⟨(ind 0 ++ 112 :: (114 :: 111 :: 99 :: 32 :: (str p.name ++ 40 :: (txPm p.params ++ 41 :: [32, 123])))) :: (bs ++ [[125]]), ?_, ?_, ?_, ?_, ?_⟩
  · unfold txP
    rw [e1, unl, unl_app]
    simp [kProc, opb, ind, unl]
  · intro l hl
    rcases List.mem_cons.1 hl with rfl | hl
    · exact no_lf hp
    · rcases List.mem_append.1 hl with hl | hl
      · exact e2 l hl
      · rw [List.mem_singleton.1 hl]; decide
  · rw [runL, ok_line (d := 0) (x := 123) (op1 := 0) (by decide) ?_ (by decide) rfl (Or.inr (Or.inl (by decide))) (Or.inl rfl)]
    · simp only [if_pos]
      have e4 := runL_app bs [[125]] _ _ _ _ (e3 (0 + 1) (by decide))
      rw [show (0 : Int) + 1 = ((1 : Nat) : Int) from rfl] at e4 ⊢
      rw [e4, runL]
      rw [show ([125] : Str) = ind 0 ++ 125 :: [] from rfl, ok_line (d := 0) (x := 125) (op1 := 0) (by decide) rfl (by decide) rfl (Or.inr (Or.inr rfl)) (Or.inr (Or.inr rfl))]
      simp only [runL, List.length_cons, List.length_append, List.length_nil]
      rw [if_neg (by decide)]
      congr 2
      push_cast
      omega
    · rw [show (112 :: (114 :: 111 :: 99 :: 32 :: (str p.name ++ 40 :: (txPm p.params ++ 41 :: [32, 123]))) : Str) = (112 :: (114 :: 111 :: 99 :: 32 :: (str p.name ++ 40 :: (txPm p.params ++ [41, 32])))) ++ [123] by simp]
      exact last_app
  · simp
  · exact ⟨_, rfl, by simp only [List.length_append, List.length_cons]; omega⟩
end Go.Proofs.YtbmdadhbkdkgmaaDoor.P
namespace Go.Proofs.YtbmdadhbkdkgmaaDoor.P
open L (Str)
open A

/-- where the line begins, how many blocks are open, how many lines there were: behind i bytes; none if a line was wrong -/
def scan (s : Str) : Nat → Option (Nat × Int × Int)
  | 0 => some (0, 0, 0)
  | i + 1 => match scan s i with
    | none => none
    | some (f, op, n) =>
      if s[i]? = some 10 then
        match okLine op (n + 1) ((s.take i).drop f) with
        | none => none
        | some op' => some (i + 1, op', n + 1)
      else some (f, op, n)
theorem scan_some {s : Str} : ∀ (k i : Nat), scan s (i + k) ≠ none → scan s i ≠ none
  | 0, _, h => h
  | k + 1, i, h => scan_some k i fun e => h (by rw [← Nat.add_assoc, scan, e])
theorem ok_bd {op n op' : Int} {l : Str} (h : okLine op n l = some op') : op - 1 ≤ op' ∧ op' ≤ op + 1 := by
  unfold okLine at h
  generalize hx : (if l[lead l]? = some 125 then op - 1 else op) = x at h
  have hb : op - 1 ≤ x ∧ x ≤ op := by
    rw [← hx]
    by_cases h1 : l[lead l]? = some 125
    · rw [if_pos h1]; omega
    · rw [if_neg h1]; omega
  split at h
  · cases h
  · split at h
    · cases h
    · split at h
      · injection h with h; omega
      · split at h
        · injection h with h; omega
        · cases h
theorem scan_bd {s : Str} : ∀ {i f : Nat} {op n : Int}, scan s i = some (f, op, n) → f ≤ i ∧ 0 ≤ n ∧ n ≤ i ∧ -n ≤ op ∧ op ≤ n
  | 0, f, op, n, h => by
    rw [scan] at h
    cases h
    omega
  | i + 1, f, op, n, h => by
    rw [scan] at h
    cases hs : scan s i with
    | none => rw [hs] at h; cases h
    | some p =>
      obtain ⟨f0, op0, n0⟩ := p
      have ih := scan_bd hs
      rw [hs] at h
      simp only at h
      by_cases h1 : s[i]? = some 10
      · rw [if_pos h1] at h
        cases ho : okLine op0 (n0 + 1) ((s.take i).drop f0) with
        | none => rw [ho] at h; cases h
        | some x =>
          rw [ho] at h
          cases h
          have := ok_bd ho
          omega
      · rw [if_neg h1] at h
        cases h
        omega
theorem scan_line {pre l post : Str} {op n : Int} (h0 : scan (pre ++ (l ++ post)) pre.length = some (pre.length, op, n)) (hl : (10 : UInt8) ∉ l) :
    ∀ j, j ≤ l.length → scan (pre ++ (l ++ post)) (pre.length + j) = some (pre.length, op, n)
  | 0, _ => h0
  | j + 1, hj => by
    rw [← Nat.add_assoc, scan, scan_line h0 hl j (by omega)]
    simp only
    rw [if_neg]
    rw [List.getElem?_append_right (by omega), Nat.add_sub_cancel_left, List.getElem?_append_left (by omega), List.getElem?_eq_getElem (by omega)]
    intro e
    injection e with e
    exact hl (e ▸ List.getElem_mem _)
theorem scan_go : ∀ (ls : List Str) (pre : Str) (op n o m : Int), (∀ l ∈ ls, (10 : UInt8) ∉ l) → scan (pre ++ unl ls) pre.length = some (pre.length, op, n) → runL op n ls = some (o, m) →
    scan (pre ++ unl ls) (pre ++ unl ls).length = some ((pre ++ unl ls).length, o, m)
  | [], pre, op, n, o, m, _, h, hr => by
    rw [runL] at hr
    cases hr
    rw [unl, List.append_nil] at h ⊢
    exact h
  | l :: r, pre, op, n, o, m, hl, h, hr => by
    rw [runL] at hr
    cases ho : okLine op (n + 1) l with
    | none => rw [ho] at hr; cases hr
    | some x =>
      rw [ho] at hr
      simp only at hr
      rw [unl] at h ⊢
      have g := scan_line h (hl l (List.mem_cons_self ..)) l.length (Nat.le_refl _)
      have e : pre ++ (l ++ 10 :: unl r) = (pre ++ (l ++ [10])) ++ unl r := by simp
      have g2 : scan (pre ++ (l ++ 10 :: unl r)) (pre ++ (l ++ [10])).length = some ((pre ++ (l ++ [10])).length, x, n + 1) := by
        have e2 : (pre ++ (l ++ [10])).length = pre.length + l.length + 1 := by simp; omega
        rw [e2, scan, g]
        simp only
        rw [if_pos, show ((pre ++ (l ++ 10 :: unl r)).take (pre.length + l.length)).drop pre.length = l from ?_, ho]
        · rw [← List.append_assoc, show pre.length + l.length = (pre ++ l).length by simp, List.take_left, List.drop_left]
        · rw [← List.append_assoc, List.getElem?_append_right (by simp)]
          simp
      rw [e] at g2 ⊢
      exact scan_go r _ x (n + 1) o m (fun l hm => hl l (List.mem_cons_of_mem _ hm)) g2 hr
/-- a valid procedure's text, read to its end -/
theorem txP_scan {p : Pr} (w : WP p) : ∃ m : Int, scan (txP p) (txP p).length = some ((txP p).length, 0, m) ∧ 2 ≤ m ∧ (∀ i, i ≤ (txP p).length → scan (txP p) i ≠ none) ∧ ∃ t, txP p = kProc ++ 32 :: t ∧ 1 ≤ t.length := by
  obtain ⟨ls, e, h1, h2, h3, h4⟩ := txP_run w
  have g := scan_go ls [] 0 0 0 ls.length h1 (by rw [List.nil_append]; rfl) h2
  rw [List.nil_append, ← e] at g
  refine ⟨ls.length, g, by omega, fun i hi => scan_some ((txP p).length - i) i ?_, h4⟩
  rw [show i + ((txP p).length - i) = (txP p).length by omega, g]
  exact fun x => by cases x
end Go.Proofs.YtbmdadhbkdkgmaaDoor.P
