/-
  Plain mathematics of layer 9, without the program: what the error of a procedure says; how long texts are.
  Plain mathematics of layer 9, without the program: the lines of a valid procedure's text, their indentation, and the blocks that they open and close.
-/
import Derived.Test.YteglaeopaocilaaGreatDoorM00
namespace Go.Proofs.YteglaeopaocilaaGreatDoor.P
open L (Str)
open A

theorem noE_of {e : Ex} (h : absent e = true) : e = noE := by
  unfold absent at h
  simp only [Bool.and_eq_true, decide_eq_true_iff, List.isEmpty_iff] at h
  obtain ⟨⟨⟨h1, h2⟩, h3⟩, h4⟩ := h
  obtain ⟨o, n, s, l⟩ := e
  simp only [Ex.op, Ex.n, Ex.s, Ex.args] at h1 h2 h3 h4
  rw [h1, h2, h4, size0 h3]
structure Parts (o : Int) (nm : ByteArray) (mx : Int) (a b : Ex) (bd el : List St) : Prop where
  lo : 1 ≤ o
  hi : o ≤ 8
  hnm : uN o = false → nm = none8
  hmx : uM o = false → mx = 0
  ha : uA o = false → a = noE
  hb : uB o = false → b = noE
  hbd : uD o = false → bd = []
  hel : uE o = false → el = []
  six : o = 6 → 1 ≤ mx ∧ mx ≤ 16
  eight : o = 8 → 0 ≤ mx ∧ mx ≤ 999
theorem parts_of' {s : St} {d : Nat} (g : Good s d) : Parts s.op s.name s.mx s.a s.b s.body s.els := by
  have f := g.form
  have m := g.most
  unfold badS at f
  unfold badM at m
  simp only [Bool.or_eq_false_iff, Bool.and_eq_false_iff, Bool.not_eq_false', decide_eq_false_iff_not, decide_eq_true_iff] at f m
  obtain ⟨⟨⟨⟨⟨⟨⟨f1, f2⟩, f3⟩, f4⟩, f5⟩, f6⟩, f7⟩, f8⟩ := f
  obtain ⟨m1, m2⟩ := m
  refine ⟨by omega, by omega, fun h => ?_, fun h => ?_, fun h => ?_, fun h => ?_, fun h => ?_, fun h => ?_, by omega, by omega⟩
  · rw [h] at f3; exact size0 (f3.resolve_left (by decide))
  · rw [h] at f4; exact f4.resolve_left (by decide)
  · rw [h] at f5; exact noE_of (f5.resolve_left (by decide))
  · rw [h] at f6; exact noE_of (f6.resolve_left (by decide))
  · rw [h] at f7; exact List.isEmpty_iff.1 (f7.resolve_left (by decide))
  · rw [h] at f8; exact List.isEmpty_iff.1 (f8.resolve_left (by decide))
theorem parts_of {o : Int} {nm : ByteArray} {mx : Int} {a b : Ex} {bd el : List St} {d : Nat} (g : Good (.mk o nm mx a b bd el) d) : Parts o nm mx a b bd el := parts_of' g
theorem preB_mem {s : St} {v : V} {d : Nat} : ∀ {l : List St}, s ∈ l → v ∈ preS s d → v ∈ preB l d
  | x :: l, hs, hv => by
    rw [preB]
    rcases List.mem_cons.1 hs with rfl | h
    · exact List.mem_append_left _ hv
    · exact List.mem_append_right _ (preB_mem h hv)
theorem ws_of : ∀ (m : Nat) (s : St) (d : Nat), m + d = 13 → (∀ s' d', V.st s' d' ∈ preS s d → stE s' d' = 0 ∧ nB s'.a ∧ nB s'.b) → WS m s
  | m, .mk o nm mx a b bd el, d, hm, h => by
    have h0 := h (.mk o nm mx a b bd el) d (by rw [preS]; exact List.mem_cons_self ..)
    have g := good_of h0.1
    have p := parts_of g
    have hd := g.depth
    obtain ⟨m, rfl⟩ : ∃ k, m = k + 1 := ⟨m - 1, by omega⟩
    have hb : ∀ s ∈ bd, WS m s := fun s hs => ws_of m s (d + 1) (by omega) fun s' d' hv => h s' d' (by
      rw [preS]
      exact List.mem_cons_of_mem _ (List.mem_append_left _ (List.mem_append_right _ (preB_mem hs hv))))
    have he : ∀ s ∈ el, WS m s := fun s hs => ws_of m s (d + 1) (by omega) fun s' d' hv => h s' d' (by
      rw [preS]
      exact List.mem_cons_of_mem _ (List.mem_append_right _ (preB_mem hs hv)))
    have xa : uA o = true → W 12 a := fun x => w_of 12 a 1 rfl (g.a x) h0.2.1
    have xb : uB o = true → W 12 b := fun x => w_of 12 b 1 rfl (g.b x) h0.2.2
    have lo := p.lo
    have hi := p.hi
    have : o = 1 ∨ o = 2 ∨ o = 3 ∨ o = 4 ∨ o = 5 ∨ o = 6 ∨ o = 7 ∨ o = 8 := by omega
    rcases this with rfl | rfl | rfl | rfl | rfl | rfl | rfl | rfl
    · rw [p.hmx rfl, p.hb rfl, p.hbd rfl, p.hel rfl]; exact .dec m nm a (g.name rfl) (xa rfl)
    · rw [p.hmx rfl, p.hb rfl, p.hbd rfl, p.hel rfl]; exact .set m nm a (g.name rfl) (xa rfl)
    · rw [p.hnm rfl, p.hmx rfl, p.hbd rfl, p.hel rfl]; exact .put m a b (xa rfl) (xb rfl)
    · rw [p.hnm rfl, p.hmx rfl, p.hb rfl, p.hbd rfl, p.hel rfl]; exact .del m a (xa rfl)
    · rw [p.hnm rfl, p.hmx rfl, p.hb rfl]; exact .cond m a bd el (xa rfl) hb he
    · rw [p.hel rfl]; exact .loop m nm mx a b bd (g.name rfl) (p.six rfl).1 (p.six rfl).2 (xa rfl) (xb rfl) hb
    · rw [p.hnm rfl, p.hmx rfl, p.hb rfl, p.hbd rfl, p.hel rfl]; exact .emit m a (xa rfl)
    · rw [p.hnm rfl, p.ha rfl, p.hb rfl, p.hbd rfl, p.hel rfl]; exact .abort m mx (p.eight rfl).1 (p.eight rfl).2
theorem parF_ty : ∀ (l : List Pm) (seen : List ByteArray), parF seen l = 0 → ∀ q ∈ l, nam q.name = true ∧ 1 ≤ q.ty ∧ q.ty ≤ 3
  | p :: r, seen, h, q, hq => by
    rw [parF] at h
    cases h1 : nam p.name
    · rw [if_pos h1] at h; cases h
    · rw [if_neg (by rw [h1]; decide)] at h
      by_cases h2 : p.ty < 1 ∨ 3 < p.ty
      · rw [if_pos h2] at h; cases h
      · rw [if_neg h2] at h
        by_cases h3 : seen.any (fun x => decide (x = p.name)) = true
        · rw [if_pos h3] at h; cases h
        · rw [if_neg h3] at h
          rcases List.mem_cons.1 hq with rfl | h4
          · exact ⟨h1, by omega, by omega⟩
          · exact parF_ty r _ h q h4
/-- a procedure without an error is valid -/
theorem wp_of {p : Pr} (h : valE p = 0) (hb : ∀ s d, V.st s d ∈ preB p.body 1 → nB s.a ∧ nB s.b) : WP p := by
  obtain ⟨h1, h2, h3, h4⟩ := val_parts h
  rw [walk_full h4] at h3
  refine ⟨h1, ?_, fun s hs => ?_⟩
  · unfold parE at h2
    by_cases h6 : 6 < p.params.length
    · rw [if_pos h6] at h2; cases h2
    · rw [if_neg h6] at h2; exact parF_ty _ _ h2
  · exact ws_of 12 s 1 rfl fun s' d' hv => ⟨first_each h3 s' d' (preB_mem hs hv), hb s' d' (preB_mem hs hv)⟩

/-! ### lengths -/

theorem str_len (s : ByteArray) : (str s).length = s.size := rfl
theorem nam_len {s : ByteArray} (h : nam s = true) : (str s).length ≤ 16 := (L.isName_iff.1 h).1
theorem ite_len {c : Prop} [Decidable c] {a b : Str} {n : Nat} (ha : a.length ≤ n) (hb : b.length ≤ n) : (if c then a else b).length ≤ n := by
  by_cases h : c
  · rw [if_pos h]; exact ha
  · rw [if_neg h]; exact hb
theorem sg_len (o : Int) : (sg o).length ≤ 3 := by
  unfold sg
  repeat refine ite_len (by decide) ?_
  decide
theorem wd_len (o : Int) : (wd o).length ≤ 6 := by
  unfold wd
  repeat (split; decide)
  decide
theorem dec_len : ∀ (k n : Nat), n < 10 ^ (k + 1) → (Go.Lib.decDigits n).length ≤ k + 1
  | 0, n, h => by
    have h1 : n < 10 := by simpa using h
    rw [Go.Lib.decDigits, dif_pos h1]; simp
  | k + 1, n, h => by
    rw [Go.Lib.decDigits]
    split
    · simp
    · rw [List.length_append]
      have := dec_len k (n / 10) (by rw [Nat.pow_succ] at h; omega)
      simp; omega
theorem itoa_len {n : Int} (h0 : 0 ≤ n) (h : n ≤ 9223372036854775807) : (Go.Lib.itoa n).length ≤ 19 := by
  rw [L.itoa_nat h0]
  exact dec_len 18 _ (by omega)
theorem quo_len {s : ByteArray} (h : plain s = true) : (L.quo (str s)).length ≤ 130 := by
  unfold plain at h
  rw [Bool.and_eq_true] at h
  have h1 := of_decide_eq_true h.1
  have h2 := L.esc_len (str s)
  have h3 := str_len s
  unfold L.quo
  simp only [List.length_cons, List.length_append, List.length_nil]
  omega
theorem att_len (k : Nat) (p : Nat × Str) : (att k p).length ≤ p.2.length + 2 := by
  unfold att
  split
  · simp
  · omega
theorem tx_len {h : Nat} {e : Ex} (w : W h e) : (tx e).length + 10 ≤ 140 * 2 ^ h := by
  have two : ∀ h : Nat, 1 ≤ 2 ^ h := fun h => Nat.one_le_two_pow
  induction w with
  | int h n h1 h2 =>
    have := itoa_len h1 h2
    have := two h
    show (Go.Lib.itoa n).length + 10 ≤ _
    rw [Nat.pow_succ]; omega
  | str h s hp =>
    have := quo_len hp
    have := two h
    show (L.quo (str s)).length + 10 ≤ _
    rw [Nat.pow_succ]; omega
  | var h s hn =>
    have := nam_len hn
    have := two h
    show (str s).length + 10 ≤ _
    rw [Nat.pow_succ]; omega
  | nul h o h1 h2 =>
    have := wd_len o
    have := two h
    rw [tx, txs]
    unfold txN
    rw [if_neg (by omega), if_neg (by omega), if_neg (by omega), List.length_append, Nat.pow_succ]
    simp only [List.length_cons, List.length_nil]
    omega
  | neg h o a ho wa ih =>
    have l3 := att_len 3 (lv a.op, tx a)
    have l8 := att_len 8 (lv a.op, tx a)
    rw [tx, txs, txs]
    unfold txN
    rw [if_neg (by omega), if_neg (by omega), if_neg (by omega), Nat.pow_succ]
    simp only at l3 l8 ⊢
    split
    · rw [List.length_append, List.length_cons, show sNot.length = 3 from rfl]; omega
    · rw [if_pos (by omega), List.length_cons]; omega
  | call h o a h1 h2 wa ih =>
    have := wd_len o
    rw [tx, txs, txs]
    unfold txN
    rw [if_neg (by omega), if_neg (by omega), if_neg (by omega), Nat.pow_succ]
    simp only
    rw [if_neg (by omega), if_neg (by omega)]
    simp only [List.length_append, List.length_cons, List.length_nil]
    omega
  | bin h o a b h1 h2 h3 h4 wa wb iha ihb =>
    have := sg_len o
    have la := fun k => att_len k (lv a.op, tx a)
    have lb := fun k => att_len k (lv b.op, tx b)
    simp only at la lb
    rw [tx, txs, txs, txs]
    unfold txN
    rw [if_neg (by omega), if_neg (by omega), if_neg (by omega), Nat.pow_succ]
    simp only
    split
    · have := la 5
      have := lb 5
      simp only [List.length_append, List.length_cons]
      omega
    · have := la (lv o)
      have := lb (lv o + 1)
      simp only [List.length_append, List.length_cons]
      omega
/-! the number of statements -/
mutual
def nS : St → Nat
  | .mk _ _ _ _ _ bd el => 1 + nSs bd + nSs el
def nSs : List St → Nat
  | [] => 0
  | s :: r => nS s + nSs r
end
theorem ind_len (d : Nat) : (ind d).length = 4 * d := List.length_replicate
end Go.Proofs.YteglaeopaocilaaGreatDoor.P
namespace Go.Proofs.YteglaeopaocilaaGreatDoor.P
open L (Str prt)
open A

/-- the number of leading spaces -/
def lead : Str → Nat
  | [] => 0
  | c :: r => if c = 32 then lead r + 1 else 0
/-- the blocks that are open behind a line, or none if the line is wrong; n lines have been read, this one among them -/
def okLine (op n : Int) (l : Str) : Option Int :=
  if lead l = l.length then none
  else if (lead l : Int) ≠ 4 * (if l[lead l]? = some 125 then op - 1 else op) ∨ ((if l[lead l]? = some 125 then op - 1 else op) = 0 ∧ 1 < n ∧ l ≠ [125]) then none
  else if l.getLast? = some 123 then some ((if l[lead l]? = some 125 then op - 1 else op) + 1)
  else if l.getLast? = some 59 ∨ l.getLast? = some 125 then some (if l[lead l]? = some 125 then op - 1 else op)
  else none
def runL : Int → Int → List Str → Option (Int × Int)
  | op, n, [] => some (op, n)
  | op, n, l :: r => match okLine op (n + 1) l with
    | none => none
    | some op' => runL op' (n + 1) r
def unl : List Str → Str
  | [] => []
  | l :: r => l ++ 10 :: unl r
theorem unl_app : ∀ a b : List Str, unl (a ++ b) = unl a ++ unl b
  | [], b => rfl
  | l :: r, b => by rw [List.cons_append, unl, unl, unl_app r b, List.append_assoc, List.cons_append]
theorem runL_app : ∀ (a b : List Str) (op n op2 n2 : Int), runL op n a = some (op2, n2) → runL op n (a ++ b) = runL op2 n2 b
  | [], b, op, n, op2, n2, h => by
    rw [runL] at h
    injection h with h
    injection h with h1 h2
    rw [List.nil_append, h1, h2]
  | l :: r, b, op, n, op2, n2, h => by
    rw [List.cons_append, runL]
    rw [runL] at h
    cases ho : okLine op (n + 1) l with
    | none => rw [ho] at h; cases h
    | some x => rw [ho] at h; exact runL_app r b x (n + 1) op2 n2 h
theorem lead_ind : ∀ (k : Nat) (c : UInt8) (m : Str), c ≠ 32 → lead (List.replicate k 32 ++ c :: m) = k ∧ (List.replicate k (32 : UInt8) ++ c :: m)[k]? = some c
  | 0, c, m, h => by
    rw [List.replicate_zero, List.nil_append, lead, if_neg h]
    exact ⟨rfl, rfl⟩
  | k + 1, c, m, h => by
    obtain ⟨h1, h2⟩ := lead_ind k c m h
    rw [List.replicate_succ, List.cons_append, lead, if_pos rfl, h1, List.getElem?_cons_succ]
    exact ⟨rfl, h2⟩
/-- a line with its indentation and its last byte -/
theorem ok_line {d : Nat} {c x : UInt8} {m : Str} {op n op1 : Int} (hc : c ≠ 32) (hx : (c :: m).getLast? = some x) (h1 : op1 = if c = 125 then op - 1 else op) (hd : op1 = d) (hz : 1 ≤ d ∨ n ≤ 1 ∨ ind d ++ c :: m = [125]) (h2 : x = 123 ∨ x = 59 ∨ x = 125) :
    okLine op n (ind d ++ c :: m) = some (if x = 123 then op1 + 1 else op1) := by
  obtain ⟨g1, g2⟩ := lead_ind (4 * d) c m hc
  have gl : (ind d ++ c :: m).getLast? = some x := by rw [List.getLast?_append, hx]; rfl
  have e : (if (ind d ++ c :: m)[lead (ind d ++ c :: m)]? = some 125 then op - 1 else op) = op1 := by
    unfold ind
    rw [g1, g2, h1]
    by_cases h : c = 125
    · rw [if_pos (by rw [h]), if_pos h]
    · rw [if_neg (by simpa using h), if_neg h]
  have g3 : lead (ind d ++ c :: m) = 4 * d := g1
  unfold okLine
  rw [e, gl, g3, if_neg (by simp only [List.length_append, List.length_cons, ind_len]; omega), if_neg ?_]
  · rcases h2 with rfl | rfl | rfl
    · rw [if_pos rfl, if_pos rfl]
    · rw [if_neg (by decide), if_pos (Or.inl rfl), if_neg (by decide)]
    · rw [if_neg (by decide), if_pos (Or.inr rfl), if_neg (by decide)]
  · rintro (h | ⟨h, h3, h4⟩)
    · omega
    · rcases hz with hz | hz | hz
      · omega
      · omega
      · exact h4 hz
/-- a text of whole lines behind which e blocks are open, if d are open before -/
def Moves (d e : Nat) (s : Str) : Prop := ∃ ls, s = unl ls ∧ (∀ l ∈ ls, (10 : UInt8) ∉ l) ∧ ∀ n : Int, 1 ≤ n → runL d n ls = some ((e : Int), n + ls.length)
theorem Moves.nil (d : Nat) : Moves d d [] := ⟨[], rfl, fun l h => (by cases h), fun n _ => by simp [runL]⟩
theorem Moves.app {d e f : Nat} {s t : Str} (h : Moves d e s) (h2 : Moves e f t) : Moves d f (s ++ t) := by
  obtain ⟨a, rfl, a2, a3⟩ := h
  obtain ⟨b, rfl, b2, b3⟩ := h2
  refine ⟨a ++ b, (unl_app a b).symm, fun l hl => (List.mem_append.1 hl).elim (a2 l) (b2 l), fun n hn => ?_⟩
  rw [runL_app a b _ _ _ _ (a3 n hn), b3 _ (by omega), List.length_append]
  congr 2; omega
theorem no_lf {d : Nat} {m : Str} (hp : m.all prt = true) : (10 : UInt8) ∉ ind d ++ m := by
  intro h
  rcases List.mem_append.1 h with h | h
  · have := (List.mem_replicate.1 h).2; cases this
  · have := L.prt_iff.1 (List.all_eq_true.1 hp _ h); simp at this
/-- one line -/
theorem Moves.line {d e f : Nat} {c x : UInt8} {m : Str} (hc : c ≠ 32) (hx : (c :: m).getLast? = some x) (hp : (c :: m).all prt = true) (h1 : (e : Int) = if c = 125 then (d : Int) - 1 else d) (hz : 1 ≤ e) (h2 : x = 123 ∨ x = 59 ∨ x = 125) (hf : f = if x = 123 then e + 1 else e) : Moves d f (ind e ++ (c :: m ++ [10])) := by
  refine ⟨[ind e ++ c :: m], ?_, ?_, fun n hn => ?_⟩
  · simp [unl]
  · intro l hl
    rw [List.mem_singleton.1 hl]
    exact no_lf hp
  · rw [runL, ok_line hc hx h1 rfl (Or.inl hz) h2, hf]
    simp only [runL, List.length_singleton]
    by_cases h : x = 123
    · rw [if_pos h, if_pos h]; rfl
    · rw [if_neg h, if_neg h]; rfl
/-! ### the bytes of a text are printable -/

/-! ### statements -/

/-! ### procedures -/

end Go.Proofs.YteglaeopaocilaaGreatDoor.P
