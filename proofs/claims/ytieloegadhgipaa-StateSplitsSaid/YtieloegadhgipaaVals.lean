/-
  Plain mathematics of layer 5, without the program: values, their order and their texts.
  Plain mathematics of layer 5, without the program: the encodings of values.
  What the reference of layer 5 returns: Plain, Valid, Int, Str, less, Compare: contracts, one a function; what all texts of the layer use.
  What the reference of layer 5 returns: Quote, Format, unquote, Parse: contracts, one a function.
  What the reference of layer 5 returns: Parse, Encode, Decode: contracts, one a function.
  What the reference's Decode of layer 5 returns: its contract.
  What the program's own value functions return: isPlainByte, isSpecial, isPlain, Valid, Int, newString, Str, Compare and what it calls: contracts, one a function.
  What the program's own Encode, decodeInt, decodeString and Decode return: contracts, one a function.
-/
import Derived.Test.YtieloegadhgipaaNums
import Derived.Test.YtieloegadhgipaaWires
import Derived.Laws.EntriesVeiled
import Derived.WalkLawsBesides
import Derived.Deep.QuietTactic
import Derived.BigQuiet
import Derived.Lib.QuietBelow
namespace Go.Proofs.Ytieloegadhgipaa.V
open Go.Lib (itoa decDigits)

/-! ### the order of strings, by ranks -/

theorem count_le {α : Type} {p q : α → Bool} : ∀ (l : List α), (∀ x ∈ l, p x = true → q x = true) → l.countP p ≤ l.countP q
  | [], _ => Nat.le_refl _
  | a :: l, h => by
    have ih := count_le l fun x hx => h x (List.mem_cons_of_mem a hx)
    have ha := h a List.mem_cons_self
    rw [List.countP_cons, List.countP_cons]
    by_cases hp : p a = true
    · rw [if_pos hp, if_pos (ha hp)]; omega
    · rw [if_neg hp]; omega
theorem count_lt {α : Type} {p q : α → Bool} {y : α} (hp : ¬ p y = true) (hq : q y = true) : ∀ (l : List α), y ∈ l → (∀ x ∈ l, p x = true → q x = true) → l.countP p < l.countP q
  | [], hy, _ => by cases hy
  | a :: l, hy, h => by
    rw [List.countP_cons, List.countP_cons]
    have hle := count_le l fun x hx => h x (List.mem_cons_of_mem a hx)
    rcases List.mem_cons.1 hy with rfl | hy
    · rw [if_neg hp, if_pos hq]; omega
    · have ih := count_lt hp hq l hy fun x hx => h x (List.mem_cons_of_mem a hx)
      have ha := h a List.mem_cons_self
      by_cases hpa : p a = true
      · rw [if_pos hpa, if_pos (ha hpa)]; omega
      · rw [if_neg hpa]; omega
theorem lt_irr (a : List UInt8) : ¬ a < a := List.lt_irrefl a
theorem lt_tri {a b : List UInt8} (h : ¬ a < b) (h2 : ¬ b < a) : a = b := List.le_antisymm h2 h
theorem lt_tra {a b c : List UInt8} (h : a < b) (h2 : b < c) : a < c := List.lt_trans h h2
/-- Of any few strings the order is that of numbers. -/
theorem rank (S : List (List UInt8)) : ∃ r : List UInt8 → Nat, ∀ a ∈ S, ∀ b ∈ S, (a < b ↔ r a < r b) ∧ (a = b ↔ r a = r b) := by
  let r : List UInt8 → Nat := fun a => S.countP fun x => decide (x < a)
  have up : ∀ a ∈ S, ∀ b ∈ S, a < b → r a < r b := by
    intro a ha b _ h
    refine count_lt (y := a) (by simp [lt_irr a]) (by simpa using h) S ha ?_
    intro x _ hx
    simp only [decide_eq_true_eq] at *
    exact lt_tra hx h
  refine ⟨r, fun a ha b hb => ?_⟩
  have h1 := up a ha b hb
  have h2 := up b hb a ha
  by_cases e : a = b
  · subst e; exact ⟨⟨fun h => absurd h (lt_irr a), fun h => absurd h (Nat.lt_irrefl _)⟩, ⟨fun _ => rfl, fun _ => rfl⟩⟩
  · by_cases h : a < b
    · have := h1 h
      exact ⟨⟨fun _ => this, fun _ => h⟩, ⟨fun h => absurd h e, fun h => by omega⟩⟩
    · have h' : b < a := Decidable.byContradiction fun h' => e (lt_tri h h')
      have := h2 h'
      exact ⟨⟨fun hh => absurd hh h, fun hh => by omega⟩, ⟨fun h => absurd h e, fun h => by omega⟩⟩

/-! ### values and their order -/

/-- a value: its kind, its number, its bytes -/
structure Val where
  k : Int
  n : Int
  s : List UInt8
theorem Val.eq {a b : Val} (h1 : a.k = b.k) (h2 : a.n = b.n) (h3 : a.s = b.s) : a = b := by
  cases a; cases b; simp only at h1 h2 h3; subst h1 h2 h3; rfl
def less (a b : Val) : Bool := decide (a.k < b.k ∨ (a.k = b.k ∧ (a.n < b.n ∨ (a.n = b.n ∧ a.s < b.s))))
def cmp (a b : Val) : Int := if less a b then -1 else if less b a then 1 else 0
theorem less_iff {a b : Val} : less a b = true ↔ (a.k < b.k ∨ (a.k = b.k ∧ (a.n < b.n ∨ (a.n = b.n ∧ a.s < b.s)))) := decide_eq_true_iff
theorem cmp_neg (a b : Val) : cmp b a = -cmp a b := by
  obtain ⟨r, hr⟩ := rank [a.s, b.s]
  have e1 := (hr a.s (by simp) b.s (by simp)).1
  have e2 := (hr b.s (by simp) a.s (by simp)).1
  unfold cmp
  by_cases h1 : less a b = true
  · have h2 : ¬ less b a = true := by
      rw [less_iff, e1] at h1
      rw [less_iff, e2]
      omega
    rw [if_pos h1, if_neg h2, if_pos h1]; rfl
  · by_cases h2 : less b a = true
    · rw [if_pos h2, if_neg h1, if_pos h2]
    · rw [if_neg h2, if_neg h1, if_neg h1, if_neg h2]; rfl
theorem cmp_zero (a b : Val) : cmp a b = 0 ↔ a = b := by
  obtain ⟨r, hr⟩ := rank [a.s, b.s]
  have e1 := (hr a.s (by simp) b.s (by simp)).1
  have e2 := (hr b.s (by simp) a.s (by simp)).1
  have e3 := (hr a.s (by simp) b.s (by simp)).2
  unfold cmp
  constructor
  · intro h
    by_cases h1 : less a b = true
    · rw [if_pos h1] at h; omega
    · by_cases h2 : less b a = true
      · rw [if_neg h1, if_pos h2] at h; omega
      · rw [less_iff, e1] at h1
        rw [less_iff, e2] at h2
        exact Val.eq (by omega) (by omega) (e3.2 (by omega))
  · rintro rfl
    have h1 : ¬ less a a = true := by rw [less_iff, e1]; omega
    rw [if_neg h1, if_neg h1]
theorem cmp_tra (a b c : Val) (h1 : cmp a b ≤ 0) (h2 : cmp b c ≤ 0) : cmp a c ≤ 0 := by
  obtain ⟨r, hr⟩ := rank [a.s, b.s, c.s]
  have e1 := (hr b.s (by simp) a.s (by simp)).1
  have e2 := (hr c.s (by simp) b.s (by simp)).1
  have e3 := (hr c.s (by simp) a.s (by simp)).1
  have key : ∀ x y : Val, cmp x y ≤ 0 ↔ ¬ less y x = true := by
    intro x y
    have hn := cmp_neg x y
    unfold cmp at *
    by_cases h : less x y = true
    · have : ¬ less y x = true := by
        intro h2
        simp only [h, h2, if_true] at hn
        exact absurd hn (by decide)
      rw [if_pos h]
      exact ⟨fun _ => this, fun _ => by omega⟩
    · rw [if_neg h]
      by_cases h2 : less y x = true
      · rw [if_pos h2]
        exact ⟨fun h3 => by omega, fun h3 => absurd h2 h3⟩
      · rw [if_neg h2]
        exact ⟨fun _ => h2, fun _ => by omega⟩
  rw [key] at h1 h2 ⊢
  rw [less_iff, e1] at h1
  rw [less_iff, e2] at h2
  rw [less_iff, e3]
  generalize r a.s = x at *
  generalize r b.s = y at *
  generalize r c.s = z at *
  simp only [not_or, not_and] at h1 h2
  rintro (h | ⟨hk, h | ⟨hn, h⟩⟩) <;> omega

/-! ### valid values -/

def prt (c : UInt8) : Bool := decide (32 ≤ c.toNat ∧ c.toNat ≤ 126)
def plain (l : List UInt8) : Bool := decide (l.length ≤ 64) && l.all prt
def valid (v : Val) : Bool := decide ((v.k = 0 ∧ v.n = 0 ∧ v.s = []) ∨ (v.k = 1 ∧ v.s = []) ∨ (v.k = 2 ∧ v.n = 0 ∧ plain v.s = true))
theorem valid_iff {v : Val} : valid v = true ↔ ((v.k = 0 ∧ v.n = 0 ∧ v.s = []) ∨ (v.k = 1 ∧ v.s = []) ∨ (v.k = 2 ∧ v.n = 0 ∧ plain v.s = true)) := decide_eq_true_iff
theorem plain_iff {l : List UInt8} : plain l = true ↔ l.length ≤ 64 ∧ l.all prt = true := by unfold plain; rw [Bool.and_eq_true, decide_eq_true_iff]

/-! ### texts -/

def esc (c : UInt8) : List UInt8 := if c = 34 ∨ c = 92 then [92, c] else [c]
def quote (l : List UInt8) : List UInt8 := 34 :: (l.flatMap esc ++ [34])
/-- the bytes of a text behind its first double quote -/
def un : List UInt8 → Option (List UInt8)
  | [] => none
  | [c] => if c = 34 then some [] else none
  | c :: d :: r =>
    if c = 34 then none
    else if c = 92 then (if d = 34 ∨ d = 92 then (un r).map (d :: ·) else none)
    else if prt c then (un (d :: r)).map (c :: ·) else none
theorem un_one (c : UInt8) : un [c] = if c = 34 then some [] else none := by rw [un]
theorem un_two (c d : UInt8) (r : List UInt8) : un (c :: d :: r) = if c = 34 then none
    else if c = 92 then (if d = 34 ∨ d = 92 then (un r).map (d :: ·) else none)
    else if prt c then (un (d :: r)).map (c :: ·) else none := by rw [un]
theorem un_plain {c : UInt8} {r : List UInt8} (h1 : c ≠ 34) (h2 : c ≠ 92) (hr : r ≠ []) : un (c :: r) = if prt c then (un r).map (c :: ·) else none := by
  cases r with
  | nil => exact absurd rfl hr
  | cons d r => rw [un_two, if_neg h1, if_neg h2]
/-- What is quoted is read back. -/
theorem un_quote : ∀ t : List UInt8, t.all prt = true → un (t.flatMap esc ++ [34]) = some t
  | [], _ => by rw [List.flatMap_nil, List.nil_append, un_one, if_pos rfl]
  | c :: t, h => by
    rw [List.all_cons, Bool.and_eq_true] at h
    have ih := un_quote t h.2
    rw [List.flatMap_cons, List.append_assoc]
    unfold esc
    by_cases hc : c = 34 ∨ c = 92
    · rw [if_pos hc]
      show un (92 :: c :: _) = _
      rw [un_two, if_neg (by decide), if_pos rfl, if_pos hc]
      show (un (t.flatMap esc ++ [34])).map _ = _
      rw [ih]; rfl
    · rw [if_neg hc]
      show un (c :: (t.flatMap esc ++ [34])) = _
      rw [un_plain (fun e => hc (Or.inl e)) (fun e => hc (Or.inr e)) (by simp), if_pos h.1, ih]; rfl
/-- What is read is quoted so. -/
theorem un_back (n : Nat) : ∀ (l t : List UInt8), l.length ≤ n → un l = some t → l = t.flatMap esc ++ [34] ∧ t.all prt = true := by
  induction n with
  | zero =>
    intro l t hl h
    have : l = [] := List.length_eq_zero_iff.1 (by omega)
    subst this
    simp [un] at h
  | succ n ih =>
    intro l t hl h
    match l, h with
    | [], h => simp [un] at h
    | [c], h =>
      rw [un_one] at h
      by_cases hc : c = 34
      · rw [if_pos hc] at h
        cases h
        subst hc
        exact ⟨rfl, rfl⟩
      · rw [if_neg hc] at h; cases h
    | c :: d :: r, h =>
      rw [un_two] at h
      by_cases h1 : c = 34
      · rw [if_pos h1] at h; cases h
      · rw [if_neg h1] at h
        by_cases h2 : c = 92
        · rw [if_pos h2] at h
          by_cases h3 : d = 34 ∨ d = 92
          · rw [if_pos h3] at h
            cases hu : un r with
            | none => rw [hu] at h; cases h
            | some t' =>
              rw [hu] at h
              cases h
              have := ih r t' (by simp at hl; omega) hu
              subst h2
              refine ⟨?_, ?_⟩
              · rw [List.flatMap_cons]
                have e : esc d = [92, d] := by unfold esc; rw [if_pos h3]
                rw [e, List.append_assoc, ← this.1]; rfl
              · rw [List.all_cons, this.2, Bool.and_true]
                rcases h3 with rfl | rfl <;> rfl
          · rw [if_neg h3] at h; cases h
        · rw [if_neg h2] at h
          by_cases h3 : prt c = true
          · rw [if_pos h3] at h
            cases hu : un (d :: r) with
            | none => rw [hu] at h; cases h
            | some t' =>
              rw [hu] at h
              cases h
              have := ih (d :: r) t' (by simp at hl ⊢; omega) hu
              refine ⟨?_, ?_⟩
              · rw [List.flatMap_cons]
                have e : esc c = [c] := by unfold esc; rw [if_neg (fun e => e.elim h1 h2)]
                rw [e, List.append_assoc, ← this.1]; rfl
              · rw [List.all_cons, this.2, Bool.and_true]; exact h3
          · rw [if_neg h3] at h; cases h
/-- nil -/
def nilText : List UInt8 := [110, 105, 108]
/-- the text of a value -/
def fmt (v : Val) : List UInt8 := if valid v then (if v.k = 0 then nilText else if v.k = 1 then itoa v.n else quote v.s) else []
/-- what Parse returns: the value, the error -/
def ps (l : List UInt8) : Val × Int :=
  if l = nilText then (⟨0, 0, []⟩, 0)
  else if l.head? = some 34 then
    match un l.tail with
    | none => (⟨0, 0, []⟩, 5)
    | some t => if t.length ≤ 64 then (⟨2, 0, t⟩, 0) else (⟨0, 0, []⟩, 2)
  else if pE l = 0 then (⟨1, pV l, []⟩, 0) else (⟨0, 0, []⟩, pE l)
theorem ps_nil : ps nilText = (⟨0, 0, []⟩, 0) := if_pos rfl
theorem ps_num {l : List UInt8} (h1 : l ≠ nilText) (h2 : l.head? ≠ some 34) : ps l = if pE l = 0 then (⟨1, pV l, []⟩, 0) else (⟨0, 0, []⟩, pE l) := by
  unfold ps; rw [if_neg h1, if_neg h2]
theorem ps_none {r : List UInt8} (h : un r = none) : ps (34 :: r) = (⟨0, 0, []⟩, 5) := by
  unfold ps
  rw [if_neg (by intro h; unfold nilText at h; injection h with h3 _; exact absurd h3 (by decide)), if_pos (show (34 :: r).head? = some 34 from rfl)]
  show (match un r with | none => _ | some t => _) = _
  rw [h]
theorem ps_some {r t : List UInt8} (h : un r = some t) : ps (34 :: r) = if t.length ≤ 64 then (⟨2, 0, t⟩, 0) else (⟨0, 0, []⟩, 2) := by
  unfold ps
  rw [if_neg (by intro h; unfold nilText at h; injection h with h3 _; exact absurd h3 (by decide)), if_pos (show (34 :: r).head? = some 34 from rfl)]
  show (match un r with | none => _ | some t => _) = _
  rw [h]
theorem dec_head2 (u : Nat) : ∃ c r, decDigits u = c :: r ∧ isDig c = true := by
  have h := dec_dig u
  have h2 := (dec_head u).1
  cases hd : decDigits u with
  | nil => exact absurd hd h2
  | cons c r =>
    rw [hd, List.all_cons, Bool.and_eq_true] at h
    exact ⟨c, r, rfl, h.1⟩
/-- A number's text begins with a digit or a minus. -/
theorem itoa_head (n : Int) : ∃ c r, itoa n = c :: r ∧ (c = 45 ∨ isDig c = true) := by
  unfold Lib.itoa
  by_cases hn : n < 0
  · rw [if_pos hn]; exact ⟨45, _, rfl, Or.inl rfl⟩
  · rw [if_neg hn]
    obtain ⟨c, r, h, hc⟩ := dec_head2 n.toNat
    exact ⟨c, r, h, Or.inr hc⟩
theorem itoa_ne (n : Int) : itoa n ≠ nilText ∧ (itoa n).head? ≠ some 34 ∧ itoa n ≠ [] := by
  obtain ⟨c, r, h, hc⟩ := itoa_head n
  rw [h]
  have key : c ≠ 110 ∧ c ≠ 34 := by
    rcases hc with rfl | hc
    · exact ⟨by decide, by decide⟩
    · have := dig_bd hc
      constructor
      · rintro rfl
        have e : (110 : UInt8).toNat = 110 := rfl
        omega
      · rintro rfl
        have e : (34 : UInt8).toNat = 34 := rfl
        omega
  refine ⟨?_, ?_, by simp⟩
  · intro e
    injection e with e1 _
    exact key.1 e1
  · intro e
    injection e with e1
    exact key.2 e1
/-- (P5.3, P5.4, P5.6) A valid value is restored from its text. -/
theorem ps_fmt {v : Val} (h : valid v = true) (h0 : -9223372036854775808 ≤ v.n) (h1 : v.n ≤ 9223372036854775807) : ps (fmt v) = (v, 0) := by
  obtain ⟨k, n, s⟩ := v
  unfold fmt
  rw [if_pos h]
  rcases valid_iff.1 h with ⟨hk, hn, hs⟩ | ⟨hk, hs⟩ | ⟨hk, hn, hs⟩
  · simp only at hk hn hs ⊢
    subst hk hn hs
    rw [if_pos rfl, ps_nil]
  · simp only at hk hs h0 h1 ⊢
    subst hk hs
    rw [if_neg (by decide), if_pos rfl]
    obtain ⟨g1, g2, _⟩ := itoa_ne n
    obtain ⟨p1, p2⟩ := parse_itoa ⟨h0, h1⟩
    rw [ps_num g1 g2, if_pos p2, p1]
  · simp only at hk hn hs ⊢
    subst hk hn
    rw [if_neg (by decide), if_neg (by decide)]
    obtain ⟨hl, hp⟩ := plain_iff.1 hs
    show ps (34 :: (s.flatMap esc ++ [34])) = _
    rw [ps_some (un_quote s hp), if_pos hl]
/-- What Parse accepts is the text of a valid value. -/
theorem fmt_ps {l : List UInt8} (h : (ps l).2 = 0) : valid (ps l).1 = true ∧ fmt (ps l).1 = l := by
  by_cases h1 : l = nilText
  · subst h1; rw [ps_nil]; exact ⟨rfl, rfl⟩
  · by_cases h2 : l.head? = some 34
    · obtain ⟨r, rfl⟩ : ∃ r, l = 34 :: r := by
        cases l with
        | nil => cases h2
        | cons c r => injection h2 with h2; subst h2; exact ⟨r, rfl⟩
      cases hu : un r with
      | none => rw [ps_none hu] at h; exact absurd h (by decide)
      | some t =>
        rw [ps_some hu] at h ⊢
        by_cases hl : t.length ≤ 64
        · rw [if_pos hl]
          obtain ⟨hb, hp⟩ := un_back _ r t (Nat.le_refl _) hu
          have hv : valid ⟨2, 0, t⟩ = true := valid_iff.2 (Or.inr (Or.inr ⟨rfl, rfl, plain_iff.2 ⟨hl, hp⟩⟩))
          refine ⟨hv, ?_⟩
          show (if valid ⟨2, 0, t⟩ then _ else _) = _
          rw [if_pos hv]
          show 34 :: (t.flatMap esc ++ [34]) = _
          rw [← hb]
        · rw [if_neg hl] at h; exact absurd h (by decide)
    · rw [ps_num h1 h2] at h ⊢
      by_cases he : pE l = 0
      · rw [if_pos he]
        have hv : valid ⟨1, pV l, []⟩ = true := valid_iff.2 (Or.inr (Or.inl ⟨rfl, rfl⟩))
        refine ⟨hv, ?_⟩
        show (if valid ⟨1, pV l, []⟩ then _ else _) = _
        rw [if_pos hv]
        exact itoa_parse he
      · rw [if_neg he] at h; exact absurd h he
theorem fmt_ne {v : Val} : fmt v ≠ [] ↔ valid v = true := by
  unfold fmt
  cases hv : valid v
  · exact ⟨fun h => absurd rfl h, fun h => by cases h⟩
  · rw [if_pos rfl]
    refine ⟨fun _ => rfl, fun _ => ?_⟩
    split
    · decide
    · split
      · exact (itoa_ne v.n).2.2
      · exact List.cons_ne_nil _ _
/-- (P5.6) Different valid values have different texts. -/
theorem fmt_inj {a b : Val} (ha : valid a = true) (hb : valid b = true) (a0 : -9223372036854775808 ≤ a.n) (a1 : a.n ≤ 9223372036854775807) (b0 : -9223372036854775808 ≤ b.n) (b1 : b.n ≤ 9223372036854775807)
    (h : fmt a = fmt b) : a = b := by
  have e1 := ps_fmt ha a0 a1
  have e2 := ps_fmt hb b0 b1
  rw [h, e2] at e1
  exact (Prod.mk.inj e1).1.symm
end Go.Proofs.Ytieloegadhgipaa.V
namespace Go.Proofs.Ytieloegadhgipaa.V
open Go.Proofs.Ytieloegadhgipaa.W
open Go.Lib (uvarint zigzag unzigzag)

/-- the encoding of a value -/
def enc (v : Val) : List UInt8 := if v.k = 1 then uvarint 1 ++ intText v.n else if v.k = 2 then uvarint 2 ++ text v.s else uvarint 0
/-- what Decode returns: the value, the offset behind it, the error -/
def ds (l : List UInt8) (at_ : Int) : Val × Int × Int :=
  if tE l at_ ≠ 0 then (⟨0, 0, []⟩, 0, tE l at_)
  else if tV l at_ = 0 then (⟨0, 0, []⟩, tN l at_, 0)
  else if tV l at_ = 1 then (if tE l (tN l at_) ≠ 0 then (⟨0, 0, []⟩, 0, tE l (tN l at_)) else (⟨1, iV l (tN l at_), []⟩, tN l (tN l at_), 0))
  else if tV l at_ = 2 then (if xE l (tN l at_) 64 ≠ 0 then (⟨0, 0, []⟩, 0, xE l (tN l at_) 64) else if plain (xV l (tN l at_) 64) then (⟨2, 0, xV l (tN l at_) 64⟩, xN l (tN l at_) 64, 0) else (⟨0, 0, []⟩, 0, 5))
  else (⟨0, 0, []⟩, 0, 5)
theorem ds_err {l : List UInt8} {a : Int} (h : tE l a ≠ 0) : ds l a = (⟨0, 0, []⟩, 0, tE l a) := if_pos h
theorem ds_nil {l : List UInt8} {a : Int} (h : tE l a = 0) (h2 : tV l a = 0) : ds l a = (⟨0, 0, []⟩, tN l a, 0) := by
  unfold ds; rw [if_neg (by omega), if_pos h2]
theorem ds_int {l : List UInt8} {a : Int} (h : tE l a = 0) (h2 : tV l a = 1) : ds l a = if tE l (tN l a) ≠ 0 then (⟨0, 0, []⟩, 0, tE l (tN l a)) else (⟨1, iV l (tN l a), []⟩, tN l (tN l a), 0) := by
  unfold ds; rw [if_neg (by omega), if_neg (by omega), if_pos h2]
theorem ds_str {l : List UInt8} {a : Int} (h : tE l a = 0) (h2 : tV l a = 2) : ds l a = if xE l (tN l a) 64 ≠ 0 then (⟨0, 0, []⟩, 0, xE l (tN l a) 64) else if plain (xV l (tN l a) 64) then (⟨2, 0, xV l (tN l a) 64⟩, xN l (tN l a) 64, 0) else (⟨0, 0, []⟩, 0, 5) := by
  unfold ds; rw [if_neg (by omega), if_neg (by omega), if_neg (by omega), if_pos h2]
theorem ds_bad {l : List UInt8} {a : Int} (h : tE l a = 0) (h0 : tV l a ≠ 0) (h1 : tV l a ≠ 1) (h2 : tV l a ≠ 2) : ds l a = (⟨0, 0, []⟩, 0, 5) := by
  unfold ds; rw [if_neg (by omega), if_neg h0, if_neg h1, if_neg h2]
theorem zig_lt {n : Int} (h0 : -9223372036854775808 ≤ n) (h1 : n ≤ 9223372036854775807) : zigzag n < 18446744073709551616 := by
  unfold Lib.zigzag
  split <;> omega
/-- (P5.5, P5.6) A valid value is restored from its encoding, whatever follows it. -/
theorem ds_enc {v : Val} (h : valid v = true) (h0 : -9223372036854775808 ≤ v.n) (h1 : v.n ≤ 9223372036854775807) (rest : List UInt8) : ds (enc v ++ rest) 0 = (v, ((enc v).length : Int), 0) := by
  obtain ⟨k, n, s⟩ := v
  rcases valid_iff.1 h with ⟨hk, hn, hs⟩ | ⟨hk, hs⟩ | ⟨hk, hn, hs⟩
  · simp only at hk hn hs
    subst hk hn hs
    have e : enc ⟨0, 0, []⟩ = uvarint 0 := rfl
    rw [e]
    obtain ⟨e1, e2, e3⟩ := enc_at [] rest (x := 0) (by decide)
    rw [List.nil_append] at e1 e2 e3
    have l0 : (([] : List UInt8).length : Int) = 0 := rfl
    rw [l0] at e1 e2 e3
    rw [ds_nil e2 e1, e3]
    simp
  · simp only at hk hs h0 h1
    subst hk hs
    have e : enc ⟨1, n, []⟩ = uvarint 1 ++ uvarint (zigzag n) := rfl
    rw [e, List.append_assoc]
    obtain ⟨e1, e2, e3⟩ := enc_at [] (uvarint (zigzag n) ++ rest) (x := 1) (by decide)
    obtain ⟨f1, f2, f3⟩ := enc_at (uvarint 1) rest (x := zigzag n) (zig_lt h0 h1)
    rw [List.nil_append] at e1 e2 e3
    have l0 : (([] : List UInt8).length : Int) = 0 := rfl
    rw [l0] at e1 e2 e3
    have e3' : tN (uvarint 1 ++ (uvarint (zigzag n) ++ rest)) 0 = ((uvarint 1).length : Int) := by rw [e3]; simp
    rw [ds_int e2 e1, e3', if_neg (by rw [f2]; decide), f3]
    have hi : iV (uvarint 1 ++ (uvarint (zigzag n) ++ rest)) ((uvarint 1).length : Int) = n := by
      unfold iV
      rw [f1, Int.toNat_natCast, unz_back]
    rw [hi, List.length_append]
  · simp only at hk hn hs
    subst hk hn
    obtain ⟨hl, hp⟩ := plain_iff.1 hs
    have e : enc ⟨2, 0, s⟩ = uvarint 2 ++ text s := rfl
    rw [e, List.append_assoc]
    obtain ⟨e1, e2, e3⟩ := enc_at [] (text s ++ rest) (x := 2) (by decide)
    obtain ⟨f1, f2, f3, _⟩ := text_at (uvarint 2) rest s (by omega) (m := 64) (by omega)
    rw [List.nil_append] at e1 e2 e3
    have l0 : (([] : List UInt8).length : Int) = 0 := rfl
    rw [l0] at e1 e2 e3
    have e3' : tN (uvarint 2 ++ (text s ++ rest)) 0 = ((uvarint 2).length : Int) := by rw [e3]; simp
    rw [ds_str e2 e1, e3', if_neg (by rw [f1]; decide), f2, if_pos hs, f3, List.length_append]
/-- What Decode accepts is the encoding of a valid value. -/
theorem enc_ds {l : List UInt8} (h : (ds l 0).2.2 = 0) : valid (ds l 0).1 = true ∧ ∃ c : Nat, (ds l 0).2.1 = c ∧ 1 ≤ c ∧ c ≤ l.length ∧ enc (ds l 0).1 = l.take c := by
  by_cases h0 : tE l 0 = 0
  · obtain ⟨y, c, hv, hn, hy, h1, h2, he⟩ := accepted h0
    by_cases k0 : tV l 0 = 0
    · rw [ds_nil h0 k0]
      have y0 : y = 0 := by omega
      subst y0
      exact ⟨rfl, c, hn, h1, h2, he⟩
    · by_cases k1 : tV l 0 = 1
      · have y1 : y = 1 := by omega
        subst y1
        rw [ds_int h0 k1] at h ⊢
        rw [hn] at h ⊢
        by_cases e1 : tE l (c : Int) = 0
        · rw [if_neg (by omega)] at h ⊢
          obtain ⟨s1, s2, s3⟩ := shift_t (l := l) (a := c) h2
          obtain ⟨z, d, hv2, hn2, hz, g1, g2, hg⟩ := accepted (s2.trans e1)
          have s4 := s3 e1
          rw [List.length_drop] at g2
          have hi : iV l (c : Int) = unzigzag z := by
            unfold iV
            rw [← s1, hv2, Int.toNat_natCast]
          refine ⟨?_, c + d, ?_, by omega, by omega, ?_⟩
          · exact valid_iff.2 (Or.inr (Or.inl ⟨rfl, rfl⟩))
          · show tN l (c : Int) = _
            rw [← s4, hn2]; omega
          · show uvarint 1 ++ intText (iV l c) = _
            unfold intText
            rw [hi, zigzag_back, he, hg, List.take_add]
        · rw [if_pos e1] at h; exact absurd h e1
      · by_cases k2 : tV l 0 = 2
        · have y2 : y = 2 := by omega
          subst y2
          rw [ds_str h0 k2] at h ⊢
          rw [hn] at h ⊢
          by_cases e1 : xE l (c : Int) 64 = 0
          · rw [if_neg (by omega)] at h ⊢
            by_cases hp : plain (xV l (c : Int) 64) = true
            · rw [if_pos hp] at h ⊢
              obtain ⟨s1, s2, s3⟩ := shift_x (l := l) (a := c) h2 64
              obtain ⟨d, hn2, g1, g2, _, hg⟩ := accepted_text (s1.trans e1)
              have s4 := s3 e1
              rw [List.length_drop] at g2
              refine ⟨?_, c + d, ?_, by omega, by omega, ?_⟩
              · exact valid_iff.2 (Or.inr (Or.inr ⟨rfl, rfl, hp⟩))
              · show xN l (c : Int) 64 = _
                rw [← s4, hn2]; omega
              · show uvarint 2 ++ text (xV l (c : Int) 64) = _
                rw [← s2, he, hg, List.take_add]
            · rw [if_neg hp] at h; exact absurd h (by decide)
          · rw [if_pos e1] at h; exact absurd h e1
        · rw [ds_bad h0 k0 k1 k2] at h; exact absurd h (by decide)
  · rw [ds_err h0] at h; exact absurd h h0
/-- (P5.6) Of two different valid values neither encoding is a prefix of the other. -/
theorem enc_prefix {a b : Val} (ha : valid a = true) (hb : valid b = true) (a0 : -9223372036854775808 ≤ a.n) (a1 : a.n ≤ 9223372036854775807) (b0 : -9223372036854775808 ≤ b.n) (b1 : b.n ≤ 9223372036854775807)
    (h : (enc b).take (enc a).length = enc a) : a = b := by
  have e1 := ds_enc ha a0 a1 ((enc b).drop (enc a).length)
  have e2 := ds_enc hb b0 b1 []
  rw [← h] at e1
  rw [h] at e1
  have e3 : enc a ++ (enc b).drop (enc a).length = enc b := by
    have := List.take_append_drop (enc a).length (enc b)
    rw [h] at this
    exact this
  rw [e3] at e1
  rw [List.append_nil] at e2
  rw [e2] at e1
  exact (Prod.mk.inj e1).1.symm
theorem enc_ne (v : Val) : enc v ≠ [] := by
  have key : ∀ x : Nat, uvarint x ≠ [] := by
    intro x
    rw [Lib.uvarint]
    split <;> exact List.cons_ne_nil _ _
  unfold enc
  split
  · intro h; exact key 1 (List.append_eq_nil_iff.1 h).1
  · split
    · intro h; exact key 2 (List.append_eq_nil_iff.1 h).1
    · exact key 0
end Go.Proofs.Ytieloegadhgipaa.V
namespace Go.Proofs.Ytieloegadhgipaa.V
open Go.RowKit

theorem ret_bool {a b : Bool} (h : a = b) : Ending.returned (.bool a) = Ending.returned (.bool b) := by rw [h]
theorem ret_int {k : IntKind} {a b : Int} (h : a = b) : Ending.returned (.int k a) = .returned (.int k b) := by rw [h]
theorem ret_string {a b : ByteArray} (h : a = b) : Ending.returned (.string a) = Ending.returned (.string b) := by rw [h]
theorem size_len (s : ByteArray) : s.size = s.data.toList.length := by simp
theorem take_snoc (s : ByteArray) (k : Nat) (h : k < s.size) : s.data.toList.take (k + 1) = s.data.toList.take k ++ [s[k]] := by
  rw [List.take_succ_eq_append_getElem (by simpa using h)]; rfl
theorem take_all (s : ByteArray) : s.data.toList.take s.size = s.data.toList := List.take_of_length_le (by simp)
theorem byte_lt (c : UInt8) : c.toNat < 256 := c.toNat_lt
theorem below_2 {w w1 w2 : World} (h : Below w.heap.size w w1) (h2 : Below w1.heap.size w1 w2) : Below w.heap.size w w2 := h.trans (h2.mono h.size)
theorem bool_iff {x y : Bool} (h : x = true ↔ y = true) : x = y := by cases x <;> cases y <;> simp_all
theorem less_eq : ∀ (x y : List UInt8), Op.bytesLess x y = decide (x < y)
  | [], [] => by simp [Op.bytesLess]
  | _ :: _, [] => by simp [Op.bytesLess]
  | [], _ :: _ => by simp [Op.bytesLess]
  | a :: x, b :: y => by
    rw [Op.bytesLess, less_eq x y]
    simp only [List.cons_lt_cons_iff]
    by_cases h1 : a < b <;> by_cases h2 : a = b <;> by_cases h3 : x < y <;> simp [h1, h2, h3]
theorem lss_eq (a b : ByteArray) : Op.bytesLess a.toList b.toList = decide (a.data.toList < b.data.toList) := by rw [less_eq, Lib.toList_data, Lib.toList_data]
theorem eql_eq (a b : ByteArray) : (a.toList == b.toList) = decide (a.data.toList = b.data.toList) := by rw [Lib.toList_data, Lib.toList_data]; exact Bool.beq_eq_decide_eq _ _
theorem empty_iff (s : ByteArray) : s.toList.isEmpty = decide (s.data.toList = []) := by
  rw [Lib.toList_data]
  cases s.data.toList <;> simp

/-! ### a value in memory -/

/-- w holds a value at block b -/
structure Has (w : World) (b : Nat) (k n : Int) (s : ByteArray) : Prop where
  kind : w.cell? ⟨b, 0, none⟩ = some (.int .i64 k)
  num : w.cell? ⟨b, 1, none⟩ = some (.int .i64 n)
  str : w.cell? ⟨b, 2, none⟩ = some (.string s)
theorem Has.box (w : World) (k n : Int) (s : ByteArray) : Has (w.alloc (.cells #[.int .i64 k, .int .i64 n, .string s] 30)) w.heap.size k n s := ⟨by go_simp, by go_simp, by go_simp⟩
theorem Has.box2 (w : World) (o : Obj) (k n : Int) (s : ByteArray) : Has ((w.alloc o).alloc (.cells #[.int .i64 k, .int .i64 n, .string s] 30)) (w.heap.size + 1) k n s := ⟨by go_simp, by go_simp, by go_simp⟩
theorem Has.below {w w' : World} {b B : Nat} {k n : Int} {s : ByteArray} (h : Has w b k n s) (hb : Below B w w') (hB : b < B) : Has w' b k n s :=
  ⟨(hb.cell (by exact hB)).trans h.kind, (hb.cell (by exact hB)).trans h.num, (hb.cell (by exact hB)).trans h.str⟩
theorem Has.alloc {w : World} {b : Nat} {k n : Int} {s : ByteArray} (h : Has w b k n s) (hB : b < w.heap.size) (o : Obj) : Has (w.alloc o) b k n s :=
  h.below ((Below.refl w.heap.size w).alloc (Nat.le_refl _) o) hB
theorem Has.drew {w : World} {b : Nat} {k n : Int} {s : ByteArray} (h : Has w b k n s) : Has w.drew b k n s := ⟨h.kind, h.num, h.str⟩
theorem below_box (w : World) (o : Obj) : Below w.heap.size w (w.alloc o) := (Below.refl _ _).alloc (Nat.le_refl _) _
theorem below_box2 (w : World) (a b : Obj) : Below w.heap.size w ((w.alloc a).alloc b) := below_2 (below_box w a) (below_box _ b)
/-- block b is the call's own and may be written -/
structure Mine (w : World) (b : Nat) : Prop where
  cells : ∃ k n s, Has w b k n s
  free : w.frozen? ⟨b, 0, none⟩ = false ∧ w.frozen? ⟨b, 1, none⟩ = false ∧ w.frozen? ⟨b, 2, none⟩ = false
theorem Mine.below {w w' : World} {b B : Nat} (h : Mine w b) (hb : Below B w w') (hB : b < B) : Mine w' b := by
  obtain ⟨⟨k, n, s, h1⟩, h2, h3, h4⟩ := h
  exact ⟨⟨k, n, s, h1.below hb hB⟩, (hb.frozen (by exact hB)).trans h2, (hb.frozen (by exact hB)).trans h3, (hb.frozen (by exact hB)).trans h4⟩
theorem Mine.new (w : World) (k n : Int) (s : ByteArray) : Mine (w.alloc (.cells #[.int .i64 k, .int .i64 n, .string s] 30)) w.heap.size := ⟨⟨k, n, s, Has.box w k n s⟩, by go_simp, by go_simp, by go_simp⟩
theorem stored {w : World} {b : Nat} {k n : Int} {s : ByteArray} (h : Has w b k n s) (k' n' : Int) (s' : ByteArray) :
    Has (((w.setCell ⟨b, 0, none⟩ (.int .i64 k')).setCell ⟨b, 1, none⟩ (.int .i64 n')).setCell ⟨b, 2, none⟩ (.string s')) b k' n' s' := by
  obtain ⟨h1, h2, h3⟩ := h
  exact ⟨by go_simp, by go_simp, by go_simp⟩
theorem stored_below {w w1 : World} {b : Nat} (h : Below w.heap.size w w1) (hb : w.heap.size ≤ b) (x y z : Value) : Below w.heap.size w (((w1.setCell ⟨b, 0, none⟩ x).setCell ⟨b, 1, none⟩ y).setCell ⟨b, 2, none⟩ z) :=
  ((h.setCell hb _).setCell hb _).setCell hb _

/-! ### Plain -/

/-- all of the first k bytes are accepted -/
def upto (s : ByteArray) (k : Nat) : Prop := (s.data.toList.take k).all prt = true
theorem upto_next {s : ByteArray} {k : Nat} (h : upto s k) (hk : k < s.size) (hok : prt s[k] = true) : upto s (k + 1) := by
  unfold upto at *
  rw [take_snoc s k hk, List.all_append, h]
  simp [hok]
theorem upto_stop {s : ByteArray} {k : Nat} (hk : k < s.size) (hok : prt s[k] = false) : s.data.toList.all prt = false := by
  rw [← List.take_append_drop (k + 1) s.data.toList, take_snoc s k hk]
  simp [hok]
theorem prt_iff (c : UInt8) : prt c = true ↔ (32 : Int) ≤ (c.toNat : Int) ∧ (c.toNat : Int) ≤ 126 := by
  unfold prt
  rw [decide_eq_true_iff]
  omega
theorem plain_long {s : ByteArray} (h : ¬ s.size ≤ 64) : plain s.data.toList = false := by
  unfold plain
  rw [← size_len, decide_eq_false h]; rfl
theorem plain_bad {s : ByteArray} {k : Nat} (hk : k < s.size) (hok : prt s[k] = false) : plain s.data.toList = false := by unfold plain; rw [upto_stop hk hok, Bool.and_false]
theorem plain_good {s : ByteArray} (h : s.size ≤ 64) (hu : upto s s.size) : plain s.data.toList = true := by
  unfold plain upto at *
  rw [take_all] at hu
  rw [← size_len, decide_eq_true h, hu]; rfl
set_option maxRecDepth 100000 in
theorem rplain_any (s : ByteArray) (hs : s.size ≤ 9223372036854775807) (w : World) :
    Calls Try.prog 73 #[.string s] w fun e w' => e = .returned (.bool (plain s.data.toList)) ∧ w' = w := by
  by_cases h64 : s.size ≤ 64
  · have HL := Lib.hid (plain_good h64)
    go_enter Try.func73, Try.ntmps73
    go_wp2
    go_loop [3] (fun vi => ∃ k : Nat, k ≤ s.size ∧ vi = .int .i64 k ∧ Hid (upto s k)) (fun vi => s.size - (intOf vi).toNat)
    case atStart => exact ⟨0, Nat.zero_le _, rfl, rfl⟩
    case round =>
      obtain ⟨k, hk, rfl, HU⟩ := hrel
      by_cases hlt : k < s.size
      · by_cases hok : prt s[k] = true
        · have HN := Lib.hid (upto_next HU.out hlt hok)
          obtain ⟨g1, g2⟩ := (prt_iff _).1 hok
          clear hok
          go_wp2
          go_round
          case rel => exact ⟨k + 1, by omega, by go_num, HN⟩
          case measure => simp [intOf]; omega
        · rw [Bool.not_eq_true] at hok
          have HB := Lib.hid (plain_bad hlt hok)
          have HO := Lib.hid hok
          clear hok
          go_wp2
          all_goals first
            | (go_ret; exact ⟨ret_bool HB.out.symm, rfl⟩)
            | (exfalso; have h := (prt_iff s[k]).2 (by omega); rw [HO.out] at h; exact absurd h (by decide))
      · obtain rfl : s.size = k := by omega
        have HG := Lib.hid (HL.out HU.out)
        go_wp2_with fail
        go_ret
        exact ⟨ret_bool HG.out.symm, rfl⟩
  · have HB := Lib.hid (plain_long h64)
    go_enter Try.func73, Try.ntmps73
    go_wp2
    go_ret
    exact ⟨ret_bool HB.out.symm, rfl⟩

/-! ### Valid -/

theorem valid_nil {n : Int} {s : ByteArray} : valid ⟨0, n, s.data.toList⟩ = ((n == 0) && s.toList.isEmpty) := by
  rw [empty_iff]
  refine bool_iff ?_
  rw [valid_iff, Bool.and_eq_true, beq_iff_eq, decide_eq_true_iff]
  simp
theorem valid_int {n : Int} {s : ByteArray} : valid ⟨1, n, s.data.toList⟩ = s.toList.isEmpty := by
  rw [empty_iff]
  refine bool_iff ?_
  rw [valid_iff, decide_eq_true_iff]
  simp
theorem valid_str {n : Int} {s : ByteArray} : valid ⟨2, n, s.data.toList⟩ = ((n == 0) && plain s.data.toList) := by
  refine bool_iff ?_
  rw [valid_iff, Bool.and_eq_true, beq_iff_eq]
  simp
theorem valid_not {k n : Int} {s : ByteArray} (h0 : k ≠ 0) (h1 : k ≠ 1) (h2 : k ≠ 2) : valid ⟨k, n, s.data.toList⟩ = false := by
  cases h : valid ⟨k, n, s.data.toList⟩ with
  | false => rfl
  | true =>
    rcases valid_iff.1 h with ⟨hk, _⟩ | ⟨hk, _⟩ | ⟨hk, _⟩
    · exact absurd hk h0
    · exact absurd hk h1
    · exact absurd hk h2
set_option maxRecDepth 100000 in
theorem rvalid_any (k n : Int) (s : ByteArray) (hs : s.size ≤ 9223372036854775807) (w : World) :
    Calls Try.prog 64 #[.agg #[.int .i64 k, .int .i64 n, .string s]] w fun e w' => e = .returned (.bool (valid ⟨k, n, s.data.toList⟩)) ∧ Below w.heap.size w w' := by
  have HW := Lib.hid (below_box w (.cells #[.int .i64 k, .int .i64 n, .string s] 30))
  by_cases h0 : k = 0
  · subst h0
    have HV := Lib.hid (valid_nil (n := n) (s := s))
    cases hn : (n == 0)
    all_goals
      rw [hn] at HV
      go_enter Try.func64, Try.ntmps64
      go_wp2_with fail
      go_ret
      exact ⟨ret_bool (by rw [HV.out]; rfl), HW.out⟩
  · by_cases h1 : k = 1
    · subst h1
      have HV := Lib.hid (valid_int (n := n) (s := s))
      clear h0
      go_enter Try.func64, Try.ntmps64
      go_wp2_with fail
      go_ret
      exact ⟨ret_bool (by rw [HV.out]), HW.out⟩
    · by_cases h2 : k = 2
      · subst h2
        have HV := Lib.hid (valid_str (n := n) (s := s))
        have HP := Lib.hid (rplain_any s hs)
        generalize plain s.data.toList = P at HV HP
        clear h0 h1
        cases hn : (n == 0)
        · rw [hn] at HV
          go_enter Try.func64, Try.ntmps64
          go_wp2_with fail
          go_ret
          exact ⟨ret_bool (by rw [HV.out]; rfl), HW.out⟩
        · rw [hn] at HV
          go_enter Try.func64, Try.ntmps64
          go_wp2_with fail
          refine (HP.out _).mono ?_; rintro e w1 ⟨rfl, rfl⟩
          go_wp2_with fail
          go_ret
          exact ⟨ret_bool (by rw [HV.out]; rfl), HW.out⟩
      · have HV := Lib.hid (valid_not (n := n) (s := s) h0 h1 h2)
        have b0 : (k == 0) = false := beq_eq_false_iff_ne.2 h0
        have b1 : (k == 1) = false := beq_eq_false_iff_ne.2 h1
        have b2 : (k == 2) = false := beq_eq_false_iff_ne.2 h2
        clear h0 h1 h2
        go_enter Try.func64, Try.ntmps64
        go_wp2_with fail
        go_ret
        exact ⟨ret_bool HV.out.symm, HW.out⟩

/-! ### Int, Str -/

theorem rint_any (n : Int) (w : World) :
    Calls Try.prog 72 #[.int .i64 n] w fun e w' => e = .returned (.agg #[.int .i64 1, .int .i64 n, .string ⟨#[]⟩]) ∧ Below w.heap.size w w' := by
  have HW := Lib.hid (below_box w (.cells #[.int .i64 1, .int .i64 n, .string ⟨#[]⟩] 30))
  go_enter Try.func72, Try.ntmps72
  go_wp2_with fail
  refine bodyPost_ret (v := .agg #[.int .i64 1, .int .i64 n, .string ⟨#[]⟩]) (by simp [results, Try.results72, go_sem]) rfl ⟨rfl, HW.out⟩
/-- what Str returns -/
def strV (s : ByteArray) : Value :=
  if plain s.data.toList then .tuple #[.agg #[.int .i64 2, .int .i64 0, .string s], .int .i64 0] else .tuple #[.agg #[.int .i64 0, .int .i64 0, .string ⟨#[]⟩], .int .i64 1]
theorem strV_yes {s : ByteArray} (h : plain s.data.toList = true) : strV s = .tuple #[.agg #[.int .i64 2, .int .i64 0, .string s], .int .i64 0] := by unfold strV; rw [h]; rfl
theorem strV_no {s : ByteArray} (h : plain s.data.toList = false) : strV s = .tuple #[.agg #[.int .i64 0, .int .i64 0, .string ⟨#[]⟩], .int .i64 1] := by unfold strV; rw [h]; rfl
/-! ### Compare -/

theorem less_bool (k n : Int) (s : ByteArray) (l m : Int) (t : ByteArray) : less ⟨k, n, s.data.toList⟩ ⟨l, m, t.data.toList⟩ = if (k != l) = true then decide (k < l) else if (n != m) = true then decide (n < m) else Op.bytesLess s.toList t.toList := by
  rw [lss_eq]
  refine bool_iff ?_
  rw [less_iff]
  simp only
  by_cases h1 : k = l
  · subst h1
    rw [if_neg (by simp)]
    by_cases h2 : n = m
    · subst h2
      rw [if_neg (by simp), decide_eq_true_iff]
      constructor
      · rintro (h | ⟨_, h | ⟨_, h⟩⟩)
        · omega
        · omega
        · exact h
      · intro h; exact Or.inr ⟨rfl, Or.inr ⟨rfl, h⟩⟩
    · rw [if_pos (by simpa using h2), decide_eq_true_iff]
      constructor
      · rintro (h | ⟨_, h | ⟨h, _⟩⟩)
        · omega
        · exact h
        · exact absurd h h2
      · intro h; exact Or.inr ⟨rfl, Or.inl h⟩
  · rw [if_pos (by simpa using h1), decide_eq_true_iff]
    constructor
    · rintro (h | ⟨h, _⟩)
      · exact h
      · exact absurd h h1
    · intro h; exact Or.inl h
end Go.Proofs.Ytieloegadhgipaa.V
namespace Go.Proofs.Ytieloegadhgipaa.V
open Go.RowKit

theorem append_list (a b : ByteArray) : (a ++ b).data.toList = a.data.toList ++ b.data.toList := by simp [ByteArray.data_append]
theorem bytes_eq {a b : ByteArray} (h : a.data.toList = b.data.toList) : a = b := WideShapes.bytes_inj h
/-- one byte of a string, sliced -/
theorem byte_run (s : ByteArray) (k : Nat) (h : k < s.size) : ∃ d : ByteArray, d.data.toList = [s[k]] ∧ d.size ≤ 1 ∧
    ∀ W, (Instr.slice 9 (.string s) (some (.int .i64 (k : Int))) (some (.int .i64 ((k : Int) + 1))) none).run Try.prog W = .ok (.string d) W := by
  have hl : (s.extract k (k + 1)).data.toList = [s[k]] := by
    simp only [ByteArray.data_extract, Array.toList_extract, List.extract_eq_take_drop]
    have hk : k < s.data.toList.length := by simpa using h
    rw [List.drop_eq_getElem_cons hk]
    simp
    rfl
  refine ⟨s.extract k (k + 1), hl, by rw [size_len, hl]; exact Nat.le_refl _, fun W => ?_⟩
  exact run_slice_string (P := Try.prog) W 9 s .i64 .i64 (k : Int) ((k : Int) + 1) Try.underlying9 (by omega) (by omega) (by omega)

/-! ### Quote -/

theorem quote_next {s o d : ByteArray} {k : Nat} (hk : k < s.size) (ho : o.data.toList = 34 :: (s.data.toList.take k).flatMap esc) (hd : d.data.toList = [s[k]]) :
    ((s[k].toNat = 34 ∨ s[k].toNat = 92) → (o ++ ⟨#[92]⟩ ++ d).data.toList = 34 :: (s.data.toList.take (k + 1)).flatMap esc) ∧
    (¬ (s[k].toNat = 34 ∨ s[k].toNat = 92) → (o ++ d).data.toList = 34 :: (s.data.toList.take (k + 1)).flatMap esc) := by
  have e34 : (34 : UInt8).toNat = 34 := rfl
  have e92 : (92 : UInt8).toNat = 92 := rfl
  have key : (s[k] = 34 ∨ s[k] = 92) ↔ (s[k].toNat = 34 ∨ s[k].toNat = 92) := by
    rw [← UInt8.toNat_inj, ← UInt8.toNat_inj, e34, e92]
  rw [take_snoc s k hk, List.flatMap_append]
  constructor
  · intro h
    have e : [s[k]].flatMap esc = [92, s[k]] := by
      show esc s[k] ++ [] = _
      rw [List.append_nil]; unfold esc; rw [if_pos (key.2 h)]
    rw [e, append_list, append_list, ho, hd]
    show 34 :: (_ ++ [92]) ++ [s[k]] = _
    simp
  · intro h
    have e : [s[k]].flatMap esc = [s[k]] := by
      show esc s[k] ++ [] = _
      rw [List.append_nil]; unfold esc; rw [if_neg (fun x => h (key.1 x))]
    rw [e, append_list, ho, hd]
    rfl
theorem quote_end {s o : ByteArray} (ho : o.data.toList = 34 :: (s.data.toList.take s.size).flatMap esc) : o ++ ⟨#[34]⟩ = ⟨(quote s.data.toList).toArray⟩ := by
  refine bytes_eq ?_
  rw [append_list, ho, take_all]
  rfl
/-! ### Format -/

theorem fmt_no {v : Val} (h : valid v = false) : fmt v = [] := by unfold fmt; rw [h]; rfl
theorem fmt_0 {n : Int} {s : List UInt8} (h : valid ⟨0, n, s⟩ = true) : fmt ⟨0, n, s⟩ = [110, 105, 108] := by unfold fmt; rw [h]; rfl
theorem fmt_1 {n : Int} {s : List UInt8} (h : valid ⟨1, n, s⟩ = true) : fmt ⟨1, n, s⟩ = Lib.itoa n := by unfold fmt; rw [h]; rfl
theorem fmt_2 {n : Int} {s : List UInt8} (h : valid ⟨2, n, s⟩ = true) : fmt ⟨2, n, s⟩ = quote s := by unfold fmt; rw [h]; rfl
/-! ### unquote -/

theorem un_char {c : UInt8} {r : List UInt8} (h1 : c ≠ 34) (h2 : c ≠ 92) : un (c :: r) = if prt c then (un r).map (c :: ·) else none := by
  cases r with
  | nil =>
    rw [un_one, if_neg h1]
    cases prt c <;> rfl
  | cons d r => exact un_plain h1 h2 (by simp)
theorem un_esc {d : UInt8} {r : List UInt8} (h : d = 34 ∨ d = 92) : un (92 :: d :: r) = (un r).map (d :: ·) := by rw [un_two, if_neg (by decide), if_pos rfl, if_pos h]
theorem un_esc_bad {d : UInt8} {r : List UInt8} (h : ¬ (d = 34 ∨ d = 92)) : un (92 :: d :: r) = none := by rw [un_two, if_neg (by decide), if_pos rfl, if_neg h]
theorem un_esc_end : un [92] = none := by rw [un_one, if_neg (by decide)]
theorem un_end : un [34] = some [] := by rw [un_one, if_pos rfl]
theorem un_more {d : UInt8} {r : List UInt8} : un (34 :: d :: r) = none := by rw [un_two, if_pos rfl]
/-- what has been read is o, and the rest is read from place i on -/
def Reads (s o : ByteArray) (i : Nat) : Prop := un (s.data.toList.drop 1) = (un (s.data.toList.drop i)).map (o.data.toList ++ ·)
theorem Reads.start (s : ByteArray) : Reads s ⟨#[]⟩ 1 := by
  unfold Reads
  cases un (s.data.toList.drop 1) <;> rfl
theorem drop_at {s : ByteArray} {i : Nat} (h : i < s.size) : s.data.toList.drop i = s[i] :: s.data.toList.drop (i + 1) := by
  rw [List.drop_eq_getElem_cons (by simpa using h)]; rfl
theorem drop_out {s : ByteArray} {i : Nat} (h : ¬ i < s.size) : s.data.toList.drop i = [] := List.drop_of_length_le (by have := size_len s; omega)
theorem map_more {o d : ByteArray} {c : UInt8} (hd : d.data.toList = [c]) (x : Option (List UInt8)) : (x.map (c :: ·)).map (o.data.toList ++ ·) = x.map ((o ++ d).data.toList ++ ·) := by
  cases x with
  | none => rfl
  | some t =>
    show some (o.data.toList ++ (c :: t)) = some ((o ++ d).data.toList ++ t)
    rw [append_list, hd, List.append_assoc]; rfl
theorem byte_is {c : UInt8} {m : Nat} (hm : m < 256) (h : (c.toNat : Int) = m) : c = m.toUInt8 := by
  refine UInt8.toNat_inj.1 ?_
  have e : m.toUInt8.toNat = m % 256 := rfl
  rw [e]; omega
theorem byte_not {c : UInt8} {m : Nat} (hm : m < 256) (h : ¬ (c.toNat : Int) = m) : c ≠ m.toUInt8 := by
  rintro rfl
  have e : m.toUInt8.toNat = m % 256 := rfl
  rw [e] at h; omega
theorem reads_none {s o : ByteArray} {i : Nat} (h : Reads s o i) (hu : un (s.data.toList.drop i) = none) : un (s.data.toList.drop 1) = none := by
  unfold Reads at h; rw [h, hu]; rfl
theorem reads_char {s o d : ByteArray} {i : Nat} (h : Reads s o i) (hi : i < s.size) (h1 : ¬ (s[i].toNat : Int) = 34) (h2 : ¬ (s[i].toNat : Int) = 92) :
    (prt s[i] = true → d.data.toList = [s[i]] → Reads s (o ++ d) (i + 1)) ∧ (prt s[i] = false → un (s.data.toList.drop 1) = none) := by
  have e := un_char (c := s[i]) (r := s.data.toList.drop (i + 1)) (byte_not (by decide) h1) (byte_not (by decide) h2)
  constructor
  · intro hp hd
    unfold Reads at h ⊢
    rw [h, drop_at hi, e, if_pos hp, map_more hd]
  · intro hp
    refine reads_none h ?_
    rw [drop_at hi, e, hp]; rfl
theorem reads_esc {s o d : ByteArray} {i : Nat} (h : Reads s o i) (hi : i < s.size) (h2 : (s[i].toNat : Int) = 92) (hj : i + 1 < s.size) :
    (((s[i + 1].toNat : Int) = 34 ∨ (s[i + 1].toNat : Int) = 92) → d.data.toList = [s[i + 1]] → Reads s (o ++ d) (i + 2)) ∧ (¬ ((s[i + 1].toNat : Int) = 34 ∨ (s[i + 1].toNat : Int) = 92) → un (s.data.toList.drop 1) = none) := by
  have e0 : s[i] = 92 := byte_is (m := 92) (by decide) h2
  constructor
  · intro hp hd
    unfold Reads at h ⊢
    rw [h, drop_at hi, drop_at hj, e0, un_esc (hp.elim (fun x => Or.inl (byte_is (m := 34) (by decide) x)) (fun x => Or.inr (byte_is (m := 92) (by decide) x))), map_more hd]
  · intro hp
    refine reads_none h ?_
    rw [drop_at hi, drop_at hj, e0]
    refine un_esc_bad fun x => hp ?_
    rcases x with x | x
    · left; rw [x]; rfl
    · right; rw [x]; rfl
theorem reads_cut {s o : ByteArray} {i : Nat} (h : Reads s o i) (hi : i < s.size) (h2 : (s[i].toNat : Int) = 92) (hj : ¬ i + 1 < s.size) : un (s.data.toList.drop 1) = none := by
  refine reads_none h ?_
  rw [drop_at hi, drop_out hj, byte_is (m := 92) (by decide) h2]
  exact un_esc_end
theorem reads_out {s o : ByteArray} {i : Nat} (h : Reads s o i) (hi : ¬ i < s.size) : un (s.data.toList.drop 1) = none := by
  refine reads_none h ?_
  rw [drop_out hi]; rfl
theorem reads_quote {s o : ByteArray} {i : Nat} (h : Reads s o i) (hi : i < s.size) (h1 : (s[i].toNat : Int) = 34) :
    (i + 1 = s.size → un (s.data.toList.drop 1) = some o.data.toList) ∧ (i + 1 ≠ s.size → un (s.data.toList.drop 1) = none) := by
  have e0 : s[i] = 34 := byte_is (m := 34) (by decide) h1
  constructor
  · intro hj
    unfold Reads at h
    rw [h, drop_at hi, drop_out (by omega), e0]
    show (un [34]).map _ = _
    rw [un_end]
    show some (o.data.toList ++ []) = _
    rw [List.append_nil]
  · intro hj
    refine reads_none h ?_
    rw [drop_at hi, drop_at (by omega), e0]
    exact un_more
/-- what unquote returns -/
def unqS (s : ByteArray) : ByteArray := match un (s.data.toList.drop 1) with | none => ⟨#[]⟩ | some t => if t.length ≤ 64 then ⟨t.toArray⟩ else ⟨#[]⟩
def unqE (s : ByteArray) : Int := match un (s.data.toList.drop 1) with | none => 5 | some t => if t.length ≤ 64 then 0 else 2
theorem unq_none {s : ByteArray} (h : un (s.data.toList.drop 1) = none) : unqS s = ⟨#[]⟩ ∧ unqE s = 5 := by unfold unqS unqE; rw [h]; exact ⟨rfl, rfl⟩
theorem unq_long {s o : ByteArray} (h : un (s.data.toList.drop 1) = some o.data.toList) (hl : ¬ o.size ≤ 64) : unqS s = ⟨#[]⟩ ∧ unqE s = 2 := by
  unfold unqS unqE; rw [h]
  rw [size_len] at hl
  exact ⟨if_neg hl, if_neg hl⟩
theorem unq_some {s o : ByteArray} (h : un (s.data.toList.drop 1) = some o.data.toList) (hl : o.size ≤ 64) : unqS s = o ∧ unqE s = 0 := by
  unfold unqS unqE; rw [h]
  rw [size_len] at hl
  exact ⟨if_pos hl, if_pos hl⟩
theorem ret_se {a b : ByteArray} {x y : Int} (h : a = b ∧ x = y) : Ending.returned (.tuple #[.string b, .int .i64 y]) = .returned (.tuple #[.string a, .int .i64 x]) := by rw [h.1, h.2]
end Go.Proofs.Ytieloegadhgipaa.V
namespace Go.Proofs.Ytieloegadhgipaa.V
open Go.RowKit

/-! ### Parse -/

/-- a value and an error, as the program returns them -/
def pairV (p : Val × Int) : Value := .tuple #[.agg #[.int .i64 p.1.k, .int .i64 p.1.n, .string ⟨p.1.s.toArray⟩], .int .i64 p.2]
theorem ps_unq {s : ByteArray} (hp : 0 < s.size) (h : (s[0].toNat : Int) = 34) : pairV (ps s.data.toList) = if unqE s = 0 then .tuple #[.agg #[.int .i64 2, .int .i64 0, .string (unqS s)], .int .i64 0] else .tuple #[.agg #[.int .i64 0, .int .i64 0, .string ⟨#[]⟩], .int .i64 (unqE s)] := by
  have hl : s.data.toList = 34 :: s.data.toList.drop 1 := by
    have := drop_at (s := s) (i := 0) hp
    rw [byte_is (m := 34) (by decide) h] at this
    exact this
  rw [hl]
  cases hu : un (s.data.toList.drop 1) with
  | none =>
    obtain ⟨h1, h2⟩ := unq_none hu
    rw [ps_none hu, h2]; rfl
  | some t =>
    rw [ps_some hu]
    by_cases ht : t.length ≤ 64
    · obtain ⟨h1, h2⟩ := unq_some (s := s) (o := ⟨t.toArray⟩) hu (by rw [size_len]; exact ht)
      rw [if_pos ht, h1, h2]; rfl
    · obtain ⟨h1, h2⟩ := unq_long (s := s) (o := ⟨t.toArray⟩) hu (by rw [size_len]; exact ht)
      rw [if_neg ht, h2]; rfl
theorem ps_other {s : ByteArray} (h1 : s.data.toList ≠ nilText) (h : ∀ hp : 0 < s.size, ¬ (s[0].toNat : Int) = 34) : pairV (ps s.data.toList) = if pE s.data.toList = 0 then .tuple #[.agg #[.int .i64 1, .int .i64 (pV s.data.toList), .string ⟨#[]⟩], .int .i64 0] else .tuple #[.agg #[.int .i64 0, .int .i64 0, .string ⟨#[]⟩], .int .i64 (pE s.data.toList)] := by
  have h2 : s.data.toList.head? ≠ some 34 := by
    intro e
    by_cases hp : 0 < s.size
    · have := drop_at (s := s) (i := 0) hp
      rw [List.drop_zero] at this
      rw [this] at e
      injection e with e
      exact h hp (by rw [e]; rfl)
    · have := drop_out (s := s) (i := 0) hp
      rw [List.drop_zero] at this
      rw [this] at e
      cases e
  rw [ps_num h1 h2]
  split <;> rfl
theorem ps_is_nil {s : ByteArray} (h : s.data.toList = nilText) : pairV (ps s.data.toList) = .tuple #[.agg #[.int .i64 0, .int .i64 0, .string ⟨#[]⟩], .int .i64 0] := by rw [h, ps_nil]; rfl
theorem nil_eq (s : ByteArray) : (s.toList == [110, 105, 108]) = decide (s.data.toList = nilText) := by rw [Lib.toList_data]; exact Bool.beq_eq_decide_eq _ _
theorem unqE_bne (s : ByteArray) : unqE s = 0 ∨ (unqE s != 0) = true := by
  by_cases h : unqE s = 0
  · exact Or.inl h
  · exact Or.inr (bne_iff_ne.2 h)
/-! ### Encode -/

theorem enc_1 (n : Int) (s : ByteArray) : (⟨(enc ⟨1, n, s.data.toList⟩).toArray⟩ : ByteArray) = ⟨(Lib.uvarint 1).toArray⟩ ++ ⟨(W.intText n).toArray⟩ := by
  refine bytes_eq ?_
  rw [append_list]; rfl
theorem enc_2 (n : Int) (s : ByteArray) : (⟨(enc ⟨2, n, s.data.toList⟩).toArray⟩ : ByteArray) = ⟨(Lib.uvarint 2).toArray⟩ ++ ⟨(W.text s.data.toList).toArray⟩ := by
  refine bytes_eq ?_
  rw [append_list]; rfl
theorem enc_0 {k : Int} (n : Int) (s : ByteArray) (h1 : k ≠ 1) (h2 : k ≠ 2) : (⟨(enc ⟨k, n, s.data.toList⟩).toArray⟩ : ByteArray) = ⟨(Lib.uvarint 0).toArray⟩ := by
  unfold enc; rw [if_neg h1, if_neg h2]
theorem int_size {n : Int} (h0 : -9223372036854775808 ≤ n) (h1 : n ≤ 9223372036854775807) : (ByteArray.mk (W.intText n).toArray).size ≤ 10 := W.uv_size (Lib.zigzag_lt h0 h1)
theorem text_size {s : ByteArray} (hs : s.size ≤ 1000000000000) : (ByteArray.mk (W.text s.data.toList).toArray).size ≤ 1000000000010 := by
  rw [← W.text_eq]
  have := W.uv_size (x := s.size) (by omega)
  simp
  omega
set_option maxHeartbeats 1000000 in
set_option maxRecDepth 100000 in
theorem renc_any (k n : Int) (h0 : -9223372036854775808 ≤ n) (h1 : n ≤ 9223372036854775807) (s : ByteArray) (hs : s.size ≤ 1000000000000) (w : World) :
    Calls Try.prog 56 #[.agg #[.int .i64 k, .int .i64 n, .string s]] w fun e w' => e = .returned (.string ⟨(enc ⟨k, n, s.data.toList⟩).toArray⟩) ∧ Below w.heap.size w w' := by
  obtain ⟨a0, a1, a2⟩ := Has.box w k n s
  have r0 := fun d os => cell_regrown a0 d os
  have r1 := fun d os => cell_regrown a1 d os
  have r2 := fun d os => cell_regrown a2 d os
  clear a0 a1 a2
  have HW := Lib.hid (below_box w (.cells #[.int .i64 k, .int .i64 n, .string s] 30))
  by_cases k1 : k = 1
  · subst k1
    have HE := Lib.hid (enc_1 n s)
    have g1 : ∀ w, Calls Try.prog 54 #[.int .u64 1] w fun e w' => e = .returned (.string ⟨(Lib.uvarint 1).toArray⟩) ∧ Below w.heap.size w w' := W.ruint_any 1 (by decide)
    have g2 := W.rint_any n h0 h1
    have z1 := W.uv_size (x := 1) (by decide)
    have z2 := int_size h0 h1
    generalize ByteArray.mk (Lib.uvarint 1).toArray = a at g1 HE z1
    generalize ByteArray.mk (W.intText n).toArray = b at g2 HE z2
    have C1 := Lib.hid (fun W d os => Calls.regrown_of (w := W) (d := d) (os := os) (g1 _))
    have C2 := Lib.hid (fun W d os => Calls.regrown_of (w := W) (d := d) (os := os) (g2 _))
    clear g1 g2
    go_enter Try.func56, Try.ntmps56
    go_wp2_with fail
    refine wp_region_quiet_below (by kernel_rfl) (by kernel_rfl) ?_
    repeat (go_big_quiet_step (first | with_reducible exact C1.out _ _ _ | with_reducible exact C2.out _ _ _))
    refine wpQuiet_nil ?_
    intro _ hw'
    obtain ⟨⟨dq, osq⟩, hw''⟩ := hw'
    subst hw''
    go_wp2_with fail
    go_ret
    exact ⟨ret_string HE.out.symm, below_2 HW.out (below_regrown _ _ _)⟩
  · by_cases k2 : k = 2
    · subst k2
      have HE := Lib.hid (enc_2 n s)
      have g1 : ∀ w, Calls Try.prog 54 #[.int .u64 2] w fun e w' => e = .returned (.string ⟨(Lib.uvarint 2).toArray⟩) ∧ Below w.heap.size w w' := W.ruint_any 2 (by decide)
      have g2 := W.rtext_any s hs
      have z1 := W.uv_size (x := 2) (by decide)
      have z2 := text_size hs
      generalize ByteArray.mk (Lib.uvarint 2).toArray = a at g1 HE z1
      generalize ByteArray.mk (W.text s.data.toList).toArray = b at g2 HE z2
      have C1 := Lib.hid (fun W d os => Calls.regrown_of (w := W) (d := d) (os := os) (g1 _))
      have C2 := Lib.hid (fun W d os => Calls.regrown_of (w := W) (d := d) (os := os) (g2 _))
      clear g1 g2 k1
      go_enter Try.func56, Try.ntmps56
      go_wp2_with fail
      refine wp_region_quiet_below (by kernel_rfl) (by kernel_rfl) ?_
      repeat (go_big_quiet_step (first | with_reducible exact C1.out _ _ _ | with_reducible exact C2.out _ _ _))
      refine wpQuiet_nil ?_
      intro _ hw'
      obtain ⟨⟨dq, osq⟩, hw''⟩ := hw'
      subst hw''
      go_wp2_with fail
      go_ret
      exact ⟨ret_string HE.out.symm, below_2 HW.out (below_regrown _ _ _)⟩
    · have HE := Lib.hid (enc_0 n s k1 k2)
      have b1 : (k == 1) = false := beq_eq_false_iff_ne.2 k1
      have b2 : (k == 2) = false := beq_eq_false_iff_ne.2 k2
      have g1 : ∀ w, Calls Try.prog 54 #[.int .u64 0] w fun e w' => e = .returned (.string ⟨(Lib.uvarint 0).toArray⟩) ∧ Below w.heap.size w w' := W.ruint_any 0 (by decide)
      have G1 := Lib.hid g1
      clear g1 k1 k2 r0 r1 r2
      go_enter Try.func56, Try.ntmps56
      go_wp2_with fail
      refine (G1.out _).mono ?_; rintro e w1 ⟨rfl, hb1⟩
      go_wp2_with fail
      go_ret
      exact ⟨ret_string HE.out.symm, below_2 HW.out hb1⟩
end Go.Proofs.Ytieloegadhgipaa.V
namespace Go.Proofs.Ytieloegadhgipaa.V
open Go.RowKit

/-- a value, an offset and an error, as the program returns them -/
def tripV (p : Val × Int × Int) : Value := .tuple #[.agg #[.int .i64 p.1.k, .int .i64 p.1.n, .string ⟨p.1.s.toArray⟩], .int .i64 p.2.1, .int .i64 p.2.2]
/-- an error -/
def noV (E : Int) : Value := .tuple #[.agg #[.int .i64 0, .int .i64 0, .string ⟨#[]⟩], .int .i64 0, .int .i64 E]
theorem trip_err {l : List UInt8} {a : Int} (h : W.tE l a ≠ 0) : tripV (ds l a) = noV (W.tE l a) := by rw [ds_err h]; rfl
theorem trip_nil {l : List UInt8} {a : Int} (h : W.tE l a = 0) (h2 : W.tV l a = 0) : tripV (ds l a) = .tuple #[.agg #[.int .i64 0, .int .i64 0, .string ⟨#[]⟩], .int .i64 (W.tN l a), .int .i64 0] := by rw [ds_nil h h2]; rfl
theorem trip_int_err {l : List UInt8} {a : Int} (h : W.tE l a = 0) (h2 : W.tV l a = 1) (h3 : W.tE l (W.tN l a) ≠ 0) : tripV (ds l a) = noV (W.tE l (W.tN l a)) := by rw [ds_int h h2, if_pos h3]; rfl
theorem trip_int {l : List UInt8} {a : Int} (h : W.tE l a = 0) (h2 : W.tV l a = 1) (h3 : W.tE l (W.tN l a) = 0) : tripV (ds l a) = .tuple #[.agg #[.int .i64 1, .int .i64 (W.iV l (W.tN l a)), .string ⟨#[]⟩], .int .i64 (W.tN l (W.tN l a)), .int .i64 0] := by
  rw [ds_int h h2, if_neg (by omega)]; rfl
theorem trip_str_err {l : List UInt8} {a : Int} (h : W.tE l a = 0) (h2 : W.tV l a = 2) (h3 : W.xE l (W.tN l a) 64 ≠ 0) : tripV (ds l a) = noV (W.xE l (W.tN l a) 64) := by rw [ds_str h h2, if_pos h3]; rfl
theorem trip_str_bad {l : List UInt8} {a : Int} (h : W.tE l a = 0) (h2 : W.tV l a = 2) (h3 : W.xE l (W.tN l a) 64 = 0) (h4 : plain (W.xV l (W.tN l a) 64) = false) : tripV (ds l a) = noV 5 := by
  rw [ds_str h h2, if_neg (by omega), h4]; rfl
theorem trip_str {l : List UInt8} {a : Int} (h : W.tE l a = 0) (h2 : W.tV l a = 2) (h3 : W.xE l (W.tN l a) 64 = 0) (h4 : plain (W.xV l (W.tN l a) 64) = true) :
    tripV (ds l a) = .tuple #[.agg #[.int .i64 2, .int .i64 0, .string ⟨(W.xV l (W.tN l a) 64).toArray⟩], .int .i64 (W.xN l (W.tN l a) 64), .int .i64 0] := by
  rw [ds_str h h2, if_neg (by omega), h4]; rfl
theorem trip_bad {l : List UInt8} {a : Int} (h : W.tE l a = 0) (h0 : W.tV l a ≠ 0) (h1 : W.tV l a ≠ 1) (h2 : W.tV l a ≠ 2) : tripV (ds l a) = noV 5 := by rw [ds_bad h h0 h1 h2]; rfl
theorem xV_size {l : List UInt8} {a m : Int} : (ByteArray.mk (W.xV l a m).toArray).size ≤ l.length := by
  rw [size_len]
  show (W.xV l a m).length ≤ l.length
  unfold W.xV
  split
  · rw [List.length_take, List.length_drop]; omega
  · exact Nat.zero_le _
set_option maxHeartbeats 2000000 in
set_option maxRecDepth 100000 in
theorem rdec_any (s : ByteArray) (hs : s.size ≤ 1000000000000) (a : Int) (h0 : -9223372036854775808 ≤ a) (h1 : a ≤ 9223372036854775807) (w : World) :
    Calls Try.prog 50 #[.string s, .int .i64 a] w fun e w' => e = .returned (tripV (ds s.data.toList a)) ∧ Below w.heap.size w w' := by
  have HM := Lib.hid (Mine.new w 0 0 ⟨#[]⟩)
  have HW := Lib.hid (fun x y z => below_box w (.cells #[.int .i64 x, .int .i64 y, .string z] 30))
  have HT := Lib.hid (W.rtake_any s a h0 h1 hs)
  by_cases e0 : W.tE s.data.toList a = 0
  · have hn := W.tN_bd e0
    rw [← size_len] at hn
    have HI := Lib.hid (W.rtakeInt_any s (W.tN s.data.toList a) (by omega) (by omega) hs)
    have HX := Lib.hid (W.rtakeText_any s (W.tN s.data.toList a) 64 (by omega) (by omega) (by decide) (by decide) hs)
    have HP := Lib.hid (rplain_any ⟨(W.xV s.data.toList (W.tN s.data.toList a) 64).toArray⟩ (by have := xV_size (l := s.data.toList) (a := W.tN s.data.toList a) (m := 64); rw [← size_len] at this; omega))
    have HR := Lib.hid (rint_any (W.iV s.data.toList (W.tN s.data.toList a)))
    clear hn
    by_cases v0 : W.tV s.data.toList a = 0
    · have HV := Lib.hid (trip_nil e0 v0)
      rw [e0, v0] at HT
      generalize tripV (ds s.data.toList a) = V at HV
      generalize W.tN s.data.toList a = N at HT HV
      clear e0 v0 HI HX HP HR
      go_enter Try.func50, Try.ntmps50
      go_wp2_with fail
      refine (HT.out _).mono ?_; rintro e w1 ⟨rfl, rfl⟩
      go_wp2_with fail
      refine bodyPost_ret (v := .tuple #[.agg #[.int .i64 0, .int .i64 0, .string ⟨#[]⟩], .int .i64 N, .int .i64 0]) (by simp [results, Try.results50, go_sem]) rfl ⟨?_, HW.out _ _ _⟩
      rw [HV.out]
    · by_cases v1 : W.tV s.data.toList a = 1
      · by_cases e1 : W.tE s.data.toList (W.tN s.data.toList a) = 0
        · have HV := Lib.hid (trip_int e0 v1 e1)
          rw [e0, v1] at HT
          rw [e1] at HI
          generalize tripV (ds s.data.toList a) = V at HV
          generalize W.iV s.data.toList (W.tN s.data.toList a) = n at HI HR HV
          generalize W.tN s.data.toList (W.tN s.data.toList a) = M at HI HV
          generalize W.tN s.data.toList a = N at HT HI
          clear e0 v0 v1 e1 HX HP
          go_enter Try.func50, Try.ntmps50
          go_wp2_with fail
          refine (HT.out _).mono ?_; rintro e w1 ⟨rfl, rfl⟩
          go_wp2_with fail
          refine (HI.out _).mono ?_; rintro e w1 ⟨rfl, rfl⟩
          go_wp2_with fail
          refine (HR.out _).mono ?_; rintro e w2 ⟨rfl, hb2⟩
          obtain ⟨⟨x0, x1, x2, c0, c1, c2⟩, d0, d1, d2⟩ := HM.out.below hb2 (by simp)
          go_wp2_with fail
          obtain ⟨q0, q1, q2⟩ := stored ⟨c0, c1, c2⟩ 1 n ⟨#[]⟩
          refine bodyPost_ret (v := .tuple #[.agg #[.int .i64 1, .int .i64 n, .string ⟨#[]⟩], .int .i64 M, .int .i64 0]) (by simp [results, Try.results50, go_sem, q0, q1, q2]) rfl ⟨?_, stored_below (below_2 (HW.out _ _ _) hb2) (Nat.le_refl _) _ _ _⟩
          rw [HV.out]
        · have HV := Lib.hid (trip_int_err e0 v1 e1)
          have bE : (W.tE s.data.toList (W.tN s.data.toList a) != 0) = true := bne_iff_ne.2 e1
          rw [e0, v1] at HT
          generalize tripV (ds s.data.toList a) = V at HV
          generalize W.tE s.data.toList (W.tN s.data.toList a) = E at HI HV bE
          generalize W.iV s.data.toList (W.tN s.data.toList a) = n at HI
          generalize W.tN s.data.toList (W.tN s.data.toList a) = M at HI
          generalize W.tN s.data.toList a = N at HT HI
          clear e0 v0 v1 e1 HX HP HR
          go_enter Try.func50, Try.ntmps50
          go_wp2_with fail
          refine (HT.out _).mono ?_; rintro e w1 ⟨rfl, rfl⟩
          go_wp2_with fail
          refine (HI.out _).mono ?_; rintro e w1 ⟨rfl, rfl⟩
          go_wp2_with fail
          refine bodyPost_ret (v := .tuple #[.agg #[.int .i64 0, .int .i64 0, .string ⟨#[]⟩], .int .i64 0, .int .i64 E]) (by simp [results, Try.results50, go_sem]) rfl ⟨?_, HW.out _ _ _⟩
          rw [HV.out]; rfl
      · by_cases v2 : W.tV s.data.toList a = 2
        · by_cases e1 : W.xE s.data.toList (W.tN s.data.toList a) 64 = 0
          · have HVN := Lib.hid (trip_str_bad e0 v2 e1)
            have HVY := Lib.hid (trip_str e0 v2 e1)
            rw [e0, v2] at HT
            rw [e1] at HX
            generalize tripV (ds s.data.toList a) = V at HVN HVY
            have HPL : Hid (plain (ByteArray.mk (W.xV s.data.toList (W.tN s.data.toList a) 64).toArray).data.toList = plain (W.xV s.data.toList (W.tN s.data.toList a) 64)) := rfl
            rw [HPL.out] at HP
            generalize plain (W.xV s.data.toList (W.tN s.data.toList a) 64) = P at HP HVN HVY
            generalize ByteArray.mk (W.xV s.data.toList (W.tN s.data.toList a) 64).toArray = t at HX HP HVY
            generalize W.xN s.data.toList (W.tN s.data.toList a) 64 = M at HX HVY
            generalize W.tN s.data.toList a = N at HT HX
            clear e0 v0 v1 v2 e1 HI HR HPL
            cases P
            · go_enter Try.func50, Try.ntmps50
              go_wp2_with fail
              refine (HT.out _).mono ?_; rintro e w1 ⟨rfl, rfl⟩
              go_wp2_with fail
              refine (HX.out _).mono ?_; rintro e w1 ⟨rfl, rfl⟩
              go_wp2_with fail
              refine (HP.out _).mono ?_; rintro e w1 ⟨rfl, rfl⟩
              go_wp2_with fail
              refine bodyPost_ret (v := .tuple #[.agg #[.int .i64 0, .int .i64 0, .string ⟨#[]⟩], .int .i64 0, .int .i64 5]) (by simp [results, Try.results50, go_sem]) rfl ⟨?_, HW.out _ _ _⟩
              rw [HVN.out trivial]; rfl
            · go_enter Try.func50, Try.ntmps50
              go_wp2_with fail
              refine (HT.out _).mono ?_; rintro e w1 ⟨rfl, rfl⟩
              go_wp2_with fail
              refine (HX.out _).mono ?_; rintro e w1 ⟨rfl, rfl⟩
              go_wp2_with fail
              refine (HP.out _).mono ?_; rintro e w1 ⟨rfl, rfl⟩
              go_wp2_with fail
              refine bodyPost_ret (v := .tuple #[.agg #[.int .i64 2, .int .i64 0, .string t], .int .i64 M, .int .i64 0]) (by simp [results, Try.results50, go_sem]) rfl ⟨?_, HW.out _ _ _⟩
              rw [HVY.out trivial]
          · have HV := Lib.hid (trip_str_err e0 v2 e1)
            have bE : (W.xE s.data.toList (W.tN s.data.toList a) 64 != 0) = true := bne_iff_ne.2 e1
            rw [e0, v2] at HT
            generalize tripV (ds s.data.toList a) = V at HV
            generalize W.xE s.data.toList (W.tN s.data.toList a) 64 = E at HX HV bE
            generalize ByteArray.mk (W.xV s.data.toList (W.tN s.data.toList a) 64).toArray = t at HX
            generalize W.xN s.data.toList (W.tN s.data.toList a) 64 = M at HX
            generalize W.tN s.data.toList a = N at HT HX
            clear e0 v0 v1 v2 e1 HI HR HP
            go_enter Try.func50, Try.ntmps50
            go_wp2_with fail
            refine (HT.out _).mono ?_; rintro e w1 ⟨rfl, rfl⟩
            go_wp2_with fail
            refine (HX.out _).mono ?_; rintro e w1 ⟨rfl, rfl⟩
            go_wp2_with fail
            refine bodyPost_ret (v := .tuple #[.agg #[.int .i64 0, .int .i64 0, .string ⟨#[]⟩], .int .i64 0, .int .i64 E]) (by simp [results, Try.results50, go_sem]) rfl ⟨?_, HW.out _ _ _⟩
            rw [HV.out]; rfl
        · have HV := Lib.hid (trip_bad e0 v0 v1 v2)
          have b0 : (W.tV s.data.toList a == 0) = false := beq_eq_false_iff_ne.2 v0
          have b1 : (W.tV s.data.toList a == 1) = false := beq_eq_false_iff_ne.2 v1
          have b2 : (W.tV s.data.toList a != 2) = true := bne_iff_ne.2 v2
          rw [e0] at HT
          generalize tripV (ds s.data.toList a) = V at HV
          generalize W.tV s.data.toList a = K at HT b0 b1 b2
          generalize W.tN s.data.toList a = N at HT
          clear e0 v0 v1 v2 HI HR HP HX
          go_enter Try.func50, Try.ntmps50
          go_wp2_with fail
          refine (HT.out _).mono ?_; rintro e w1 ⟨rfl, rfl⟩
          go_wp2_with fail
          refine bodyPost_ret (v := .tuple #[.agg #[.int .i64 0, .int .i64 0, .string ⟨#[]⟩], .int .i64 0, .int .i64 5]) (by simp [results, Try.results50, go_sem]) rfl ⟨?_, HW.out _ _ _⟩
          rw [HV.out]; rfl
  · have HV := Lib.hid (trip_err e0)
    have bE : (W.tE s.data.toList a != 0) = true := bne_iff_ne.2 e0
    generalize tripV (ds s.data.toList a) = V at HV
    generalize W.tE s.data.toList a = E at HT HV bE
    generalize W.tV s.data.toList a = K at HT
    generalize W.tN s.data.toList a = N at HT
    clear e0
    go_enter Try.func50, Try.ntmps50
    go_wp2_with fail
    refine (HT.out _).mono ?_; rintro e w1 ⟨rfl, rfl⟩
    go_wp2_with fail
    refine bodyPost_ret (v := .tuple #[.agg #[.int .i64 0, .int .i64 0, .string ⟨#[]⟩], .int .i64 0, .int .i64 E]) (by simp [results, Try.results50, go_sem]) rfl ⟨?_, HW.out _ _ _⟩
    rw [HV.out]; rfl
end Go.Proofs.Ytieloegadhgipaa.V
namespace Go.Proofs.Ytieloegadhgipaa.V
open Go.RowKit

theorem opb_any (c : UInt8) (w : World) :
    Calls Try.prog 95 #[.int .u8 (c.toNat : Int)] w fun e w' => e = .returned (.bool (prt c)) ∧ w' = w := by
  by_cases hok : prt c = true
  · have HO := Lib.hid hok
    obtain ⟨g1, g2⟩ := (prt_iff _).1 hok
    clear hok
    go_enter Try.func95, Try.ntmps95
    go_wp2
    all_goals (go_ret; exact ⟨ret_bool (by rw [HO.out]), rfl⟩)
  · rw [Bool.not_eq_true] at hok
    have HO := Lib.hid hok
    clear hok
    go_enter Try.func95, Try.ntmps95
    go_wp2
    all_goals (go_ret; exact ⟨ret_bool (by first | (rw [HO.out]; done) | (rw [HO.out]; refine decide_eq_false fun h => ?_; have h2 := (prt_iff c).2 ⟨by omega, h⟩; rw [HO.out] at h2; cases h2)), rfl⟩)
/-- a byte behind a backslash -/
def spec (c : UInt8) : Bool := decide (c.toNat = 34 ∨ c.toNat = 92)
theorem spec_iff (c : UInt8) : spec c = true ↔ (c.toNat = 34 ∨ c.toNat = 92) := decide_eq_true_iff
theorem spec_all : ∀ n : Fin 256, decide (0 ≤ Lib.indexByte [34, 92] n.val.toUInt8) = decide (n.val = 34 ∨ n.val = 92) := by decide +kernel
theorem spec_index (c : UInt8) : decide (0 ≤ Lib.indexByte [34, 92] c) = spec c := by
  have h := spec_all ⟨c.toNat, byte_lt c⟩
  have e : c.toNat.toUInt8 = c := by simp
  simp only [e] at h
  exact h
theorem index_spec (c : UInt8) (w : World) :
    Calls Try.prog 84 #[.string ⟨#[34, 92]⟩, .int .u8 (c.toNat : Int)] w fun e w' => e = .returned (.int .i64 (Lib.indexByte [34, 92] c)) ∧ w' = w := by
  refine (Try.strings_IndexByte _ _ w).mono ?_
  intro e w' h
  obtain ⟨h1, h2⟩ := h
  refine ⟨?_, h2⟩
  rw [h1]
  simp
set_option maxRecDepth 100000 in
theorem oplain_any (s : ByteArray) (hs : s.size ≤ 9223372036854775807) (w : World) :
    Calls Try.prog 85 #[.string s] w fun e w' => e = .returned (.bool (plain s.data.toList)) ∧ w' = w := by
  have HC := Lib.hid opb_any
  by_cases h64 : s.size ≤ 64
  · have HL := Lib.hid (plain_good h64)
    go_enter Try.func85, Try.ntmps85
    go_wp2
    go_loop [9] (fun vi => ∃ k : Nat, k ≤ s.size ∧ vi = .int .i64 k ∧ Hid (upto s k)) (fun vi => s.size - (intOf vi).toNat)
    case atStart => exact ⟨0, Nat.zero_le _, rfl, rfl⟩
    case round =>
      obtain ⟨k, hk, rfl, HU⟩ := hrel
      by_cases hlt : k < s.size
      · have HX := Lib.hid (HC.out s[k])
        by_cases hok : prt s[k] = true
        · have HN := Lib.hid (upto_next HU.out hlt hok)
          rw [hok] at HX
          clear hok
          go_wp2_with fail
          refine (HX.out _).mono ?_; rintro e w' ⟨rfl, rfl⟩
          go_wp2_with fail
          go_round
          case rel => exact ⟨k + 1, by omega, by go_num, HN⟩
          case measure => simp [intOf]; omega
        · rw [Bool.not_eq_true] at hok
          have HB := Lib.hid (plain_bad hlt hok)
          rw [hok] at HX
          clear hok
          go_wp2_with fail
          refine (HX.out _).mono ?_; rintro e w' ⟨rfl, rfl⟩
          go_wp2_with fail
          go_ret
          exact ⟨ret_bool HB.out.symm, rfl⟩
      · obtain rfl : s.size = k := by omega
        have HG := Lib.hid (HL.out HU.out)
        go_wp2_with fail
        go_ret
        exact ⟨ret_bool HG.out.symm, rfl⟩
  · have HB := Lib.hid (plain_long h64)
    go_enter Try.func85, Try.ntmps85
    go_wp2
    go_ret
    exact ⟨ret_bool HB.out.symm, rfl⟩

set_option maxRecDepth 100000 in
theorem ovalid_any (k n : Int) (s : ByteArray) (hs : s.size ≤ 9223372036854775807) (w : World) :
    Calls Try.prog 62 #[.agg #[.int .i64 k, .int .i64 n, .string s]] w fun e w' => e = .returned (.bool (valid ⟨k, n, s.data.toList⟩)) ∧ Below w.heap.size w w' := by
  have HW := Lib.hid (below_box w (.cells #[.int .i64 k, .int .i64 n, .string s] 30))
  by_cases h0 : k = 0
  · subst h0
    have HV := Lib.hid (valid_nil (n := n) (s := s))
    cases hn : (n == 0)
    all_goals
      rw [hn] at HV
      go_enter Try.func62, Try.ntmps62
      go_wp2_with fail
      go_ret
      exact ⟨ret_bool (by rw [HV.out]; rfl), HW.out⟩
  · by_cases h1 : k = 1
    · subst h1
      have HV := Lib.hid (valid_int (n := n) (s := s))
      clear h0
      go_enter Try.func62, Try.ntmps62
      go_wp2_with fail
      go_ret
      exact ⟨ret_bool (by rw [HV.out]), HW.out⟩
    · by_cases h2 : k = 2
      · subst h2
        have HV := Lib.hid (valid_str (n := n) (s := s))
        have HP := Lib.hid (oplain_any s hs)
        generalize plain s.data.toList = P at HV HP
        clear h0 h1
        cases hn : (n == 0)
        · rw [hn] at HV
          go_enter Try.func62, Try.ntmps62
          go_wp2_with fail
          go_ret
          exact ⟨ret_bool (by rw [HV.out]; rfl), HW.out⟩
        · rw [hn] at HV
          go_enter Try.func62, Try.ntmps62
          go_wp2_with fail
          refine (HP.out _).mono ?_; rintro e w1 ⟨rfl, rfl⟩
          go_wp2_with fail
          go_ret
          exact ⟨ret_bool (by rw [HV.out]; rfl), HW.out⟩
      · have HV := Lib.hid (valid_not (n := n) (s := s) h0 h1 h2)
        have b0 : (k == 0) = false := beq_eq_false_iff_ne.2 h0
        have b1 : (k == 1) = false := beq_eq_false_iff_ne.2 h1
        have b2 : (k == 2) = false := beq_eq_false_iff_ne.2 h2
        clear h0 h1 h2
        go_enter Try.func62, Try.ntmps62
        go_wp2_with fail
        go_ret
        exact ⟨ret_bool HV.out.symm, HW.out⟩

theorem oint_any (n : Int) (w : World) :
    Calls Try.prog 97 #[.int .i64 n] w fun e w' => e = .returned (.agg #[.int .i64 1, .int .i64 n, .string ⟨#[]⟩]) ∧ Below w.heap.size w w' := by
  have HW := Lib.hid (below_box w (.cells #[.int .i64 1, .int .i64 n, .string ⟨#[]⟩] 30))
  go_enter Try.func97, Try.ntmps97
  go_wp2_with fail
  refine bodyPost_ret (v := .agg #[.int .i64 1, .int .i64 n, .string ⟨#[]⟩]) (by simp [results, Try.results97, go_sem]) rfl ⟨rfl, HW.out⟩
theorem onew_any (s : ByteArray) (w : World) :
    Calls Try.prog 98 #[.string s] w fun e w' => e = .returned (.agg #[.int .i64 2, .int .i64 0, .string s]) ∧ Below w.heap.size w w' := by
  have HW := Lib.hid (below_box w (.cells #[.int .i64 2, .int .i64 0, .string s] 30))
  go_enter Try.func98, Try.ntmps98
  go_wp2_with fail
  refine bodyPost_ret (v := .agg #[.int .i64 2, .int .i64 0, .string s]) (by simp [results, Try.results98, go_sem]) rfl ⟨rfl, HW.out⟩

/-! ### Compare -/

theorem cmp_lt {a b : Val} (h : less a b = true) : cmp a b = -1 := by unfold cmp; rw [if_pos h]
theorem cmp_gt {a b : Val} (h : less b a = true) : cmp a b = 1 := by
  have h1 := cmp_lt h
  have h2 := cmp_neg a b
  omega
/-- numbers compared -/
def ci (x y : Int) : Int := if x < y then -1 else if y < x then 1 else 0
/-- strings compared -/
def cs (x y : List UInt8) : Int := if x < y then -1 else if y < x then 1 else 0
theorem cmp_kind {a b : Val} (h : a.k ≠ b.k) : cmp a b = ci a.k b.k := by
  unfold ci
  by_cases h1 : a.k < b.k
  · rw [if_pos h1]; exact cmp_lt (less_iff.2 (Or.inl h1))
  · rw [if_neg h1, if_pos (by omega)]; exact cmp_gt (less_iff.2 (Or.inl (by omega)))
theorem cmp_num {a b : Val} (h : a.k = b.k) (h2 : a.n ≠ b.n) : cmp a b = ci a.n b.n := by
  unfold ci
  by_cases h1 : a.n < b.n
  · rw [if_pos h1]; exact cmp_lt (less_iff.2 (Or.inr ⟨h, Or.inl h1⟩))
  · rw [if_neg h1, if_pos (by omega)]; exact cmp_gt (less_iff.2 (Or.inr ⟨h.symm, Or.inl (by omega)⟩))
theorem cmp_str {a b : Val} (h : a.k = b.k) (h2 : a.n = b.n) : cmp a b = cs a.s b.s := by
  unfold cs
  by_cases h1 : a.s < b.s
  · rw [if_pos h1]; exact cmp_lt (less_iff.2 (Or.inr ⟨h, Or.inr ⟨h2, h1⟩⟩))
  · by_cases h3 : b.s < a.s
    · rw [if_neg h1, if_pos h3]; exact cmp_gt (less_iff.2 (Or.inr ⟨h.symm, Or.inr ⟨h2.symm, h3⟩⟩))
    · rw [if_neg h1, if_neg h3]; exact (cmp_zero a b).2 (Val.eq h h2 (lt_tri h1 h3))
theorem nanS_any (x : ByteArray) (w : World) :
    Calls Try.prog 79 #[.string x] w fun e w' => e = .returned (.bool false) ∧ w' = w := by
  go_enter Try.func79, Try.ntmps79
  go_wp2
  go_ret
  exact ⟨ret_bool (by simp), rfl⟩
theorem cmpI_any (x y : Int) (w : World) :
    Calls Try.prog 58 #[.int .i64 x, .int .i64 y] w fun e w' => e = .returned (.int .i64 (ci x y)) ∧ w' = w := by
  refine (Try.cmp_Compare_int x y w).mono ?_
  rintro e w' ⟨rfl, rfl⟩
  exact ⟨ret_int (by unfold Lib.compareInt ci; rfl), rfl⟩
theorem cmpS_any (x y : ByteArray) (w : World) :
    Calls Try.prog 59 #[.string x, .string y] w fun e w' => e = .returned (.int .i64 (cs x.data.toList y.data.toList)) ∧ w' = w := by
  have HN := Lib.hid nanS_any
  have key : ∀ v : Int, cs x.data.toList y.data.toList = v → Hid (cs x.data.toList y.data.toList = v) := fun _ h => h
  cases h3 : Op.bytesLess x.toList y.toList
  · have n3 := h3
    rw [lss_eq] at n3
    have n3 := of_decide_eq_false n3
    cases h4 : (x.toList == y.toList)
    · have n4 := h4
      rw [eql_eq] at n4
      have n4 := of_decide_eq_false n4
      have HV := key 1 (by unfold cs; rw [if_neg n3, if_pos (Decidable.byContradiction fun h => n4 (lt_tri n3 h))])
      clear key n3 n4
      go_enter Try.func59, Try.ntmps59
      go_wp2_with fail
      refine (HN.out _ _).mono ?_; rintro e w1 ⟨rfl, rfl⟩
      go_wp2_with fail
      refine (HN.out _ _).mono ?_; rintro e w1 ⟨rfl, rfl⟩
      go_wp2_with fail
      go_ret
      exact ⟨ret_int HV.out.symm, rfl⟩
    · have n4 := h4
      rw [eql_eq] at n4
      have n4 := of_decide_eq_true n4
      have HV := key 0 (by unfold cs; rw [if_neg n3, if_neg (by rw [n4]; exact lt_irr _)])
      clear key n3 n4
      go_enter Try.func59, Try.ntmps59
      go_wp2_with fail
      refine (HN.out _ _).mono ?_; rintro e w1 ⟨rfl, rfl⟩
      go_wp2_with fail
      refine (HN.out _ _).mono ?_; rintro e w1 ⟨rfl, rfl⟩
      go_wp2_with fail
      go_ret
      exact ⟨ret_int HV.out.symm, rfl⟩
  · have n3 := h3
    rw [lss_eq] at n3
    have n3 := of_decide_eq_true n3
    have HV := key (-1) (by unfold cs; rw [if_pos n3])
    clear key n3
    go_enter Try.func59, Try.ntmps59
    go_wp2_with fail
    refine (HN.out _ _).mono ?_; rintro e w1 ⟨rfl, rfl⟩
    go_wp2_with fail
    refine (HN.out _ _).mono ?_; rintro e w1 ⟨rfl, rfl⟩
    go_wp2_with fail
    go_ret
    exact ⟨ret_int HV.out.symm, rfl⟩
end Go.Proofs.Ytieloegadhgipaa.V
namespace Go.Proofs.Ytieloegadhgipaa.V
open Go.RowKit

set_option maxHeartbeats 1000000 in
set_option maxRecDepth 100000 in
theorem oenc_any (k n : Int) (h0 : -9223372036854775808 ≤ n) (h1 : n ≤ 9223372036854775807) (s : ByteArray) (hs : s.size ≤ 1000000000000) (w : World) :
    Calls Try.prog 53 #[.agg #[.int .i64 k, .int .i64 n, .string s]] w fun e w' => e = .returned (.string ⟨(enc ⟨k, n, s.data.toList⟩).toArray⟩) ∧ Below w.heap.size w w' := by
  obtain ⟨a0, a1, a2⟩ := Has.box w k n s
  have r0 := fun d os => cell_regrown a0 d os
  have r1 := fun d os => cell_regrown a1 d os
  have r2 := fun d os => cell_regrown a2 d os
  clear a0 a1 a2
  have HW := Lib.hid (below_box w (.cells #[.int .i64 k, .int .i64 n, .string s] 30))
  by_cases k1 : k = 1
  · subst k1
    have HE := Lib.hid (enc_1 n s)
    have g1 : ∀ w, Calls Try.prog 51 #[.int .u64 1] w fun e w' => e = .returned (.string ⟨(Lib.uvarint 1).toArray⟩) ∧ Below w.heap.size w w' := W.uint_any 1 (by decide)
    have g2 := W.int_any n h0 h1
    have z1 := W.uv_size (x := 1) (by decide)
    have z2 := int_size h0 h1
    generalize ByteArray.mk (Lib.uvarint 1).toArray = a at g1 HE z1
    generalize ByteArray.mk (W.intText n).toArray = b at g2 HE z2
    have C1 := Lib.hid (fun W d os => Calls.regrown_of (w := W) (d := d) (os := os) (g1 _))
    have C2 := Lib.hid (fun W d os => Calls.regrown_of (w := W) (d := d) (os := os) (g2 _))
    clear g1 g2
    go_enter Try.func53, Try.ntmps53
    go_wp2_with fail
    refine wp_region_quiet_below (by kernel_rfl) (by kernel_rfl) ?_
    repeat (go_big_quiet_step (first | with_reducible exact C1.out _ _ _ | with_reducible exact C2.out _ _ _))
    refine wpQuiet_nil ?_
    intro _ hw'
    obtain ⟨⟨dq, osq⟩, hw''⟩ := hw'
    subst hw''
    go_wp2_with fail
    go_ret
    exact ⟨ret_string HE.out.symm, below_2 HW.out (below_regrown _ _ _)⟩
  · by_cases k2 : k = 2
    · subst k2
      have HE := Lib.hid (enc_2 n s)
      have g1 : ∀ w, Calls Try.prog 51 #[.int .u64 2] w fun e w' => e = .returned (.string ⟨(Lib.uvarint 2).toArray⟩) ∧ Below w.heap.size w w' := W.uint_any 2 (by decide)
      have g2 := W.text_any s hs
      have z1 := W.uv_size (x := 2) (by decide)
      have z2 := text_size hs
      generalize ByteArray.mk (Lib.uvarint 2).toArray = a at g1 HE z1
      generalize ByteArray.mk (W.text s.data.toList).toArray = b at g2 HE z2
      have C1 := Lib.hid (fun W d os => Calls.regrown_of (w := W) (d := d) (os := os) (g1 _))
      have C2 := Lib.hid (fun W d os => Calls.regrown_of (w := W) (d := d) (os := os) (g2 _))
      clear g1 g2 k1
      go_enter Try.func53, Try.ntmps53
      go_wp2_with fail
      refine wp_region_quiet_below (by kernel_rfl) (by kernel_rfl) ?_
      repeat (go_big_quiet_step (first | with_reducible exact C1.out _ _ _ | with_reducible exact C2.out _ _ _))
      refine wpQuiet_nil ?_
      intro _ hw'
      obtain ⟨⟨dq, osq⟩, hw''⟩ := hw'
      subst hw''
      go_wp2_with fail
      go_ret
      exact ⟨ret_string HE.out.symm, below_2 HW.out (below_regrown _ _ _)⟩
    · have HE := Lib.hid (enc_0 n s k1 k2)
      have b1 : (k == 1) = false := beq_eq_false_iff_ne.2 k1
      have b2 : (k == 2) = false := beq_eq_false_iff_ne.2 k2
      have g1 : ∀ w, Calls Try.prog 51 #[.int .u64 0] w fun e w' => e = .returned (.string ⟨(Lib.uvarint 0).toArray⟩) ∧ Below w.heap.size w w' := W.uint_any 0 (by decide)
      have G1 := Lib.hid g1
      clear g1 k1 k2 r0 r1 r2
      go_enter Try.func53, Try.ntmps53
      go_wp2_with fail
      refine (G1.out _).mono ?_; rintro e w1 ⟨rfl, hb1⟩
      go_wp2_with fail
      go_ret
      exact ⟨ret_string HE.out.symm, below_2 HW.out hb1⟩


/-! ### Decode -/

/-- what decodeInt returns -/
def diV (l : List UInt8) (a : Int) : Value := if W.tE l a = 0 then .tuple #[.agg #[.int .i64 1, .int .i64 (W.iV l a), .string ⟨#[]⟩], .int .i64 (W.tN l a), .int .i64 0] else noV (W.tE l a)
/-- what decodeString returns -/
def dxV (l : List UInt8) (a : Int) : Value := if W.xE l a 64 = 0 then (if plain (W.xV l a 64) then .tuple #[.agg #[.int .i64 2, .int .i64 0, .string ⟨(W.xV l a 64).toArray⟩], .int .i64 (W.xN l a 64), .int .i64 0] else noV 5) else noV (W.xE l a 64)
theorem trip_int_all {l : List UInt8} {a : Int} (h : W.tE l a = 0) (h2 : W.tV l a = 1) : tripV (ds l a) = diV l (W.tN l a) := by
  unfold diV
  by_cases h3 : W.tE l (W.tN l a) = 0
  · rw [if_pos h3]; exact trip_int h h2 h3
  · rw [if_neg h3]; exact trip_int_err h h2 h3
theorem trip_str_all {l : List UInt8} {a : Int} (h : W.tE l a = 0) (h2 : W.tV l a = 2) : tripV (ds l a) = dxV l (W.tN l a) := by
  unfold dxV
  by_cases h3 : W.xE l (W.tN l a) 64 = 0
  · rw [if_pos h3]
    cases h4 : plain (W.xV l (W.tN l a) 64)
    · exact trip_str_bad h h2 h3 h4
    · exact trip_str h h2 h3 h4
  · rw [if_neg h3]; exact trip_str_err h h2 h3
theorem diV_form (l : List UInt8) (a : Int) : ∃ k n t N E, diV l a = .tuple #[.agg #[.int .i64 k, .int .i64 n, .string t], .int .i64 N, .int .i64 E] := by
  unfold diV; split <;> exact ⟨_, _, _, _, _, rfl⟩
theorem dxV_form (l : List UInt8) (a : Int) : ∃ k n t N E, dxV l a = .tuple #[.agg #[.int .i64 k, .int .i64 n, .string t], .int .i64 N, .int .i64 E] := by
  unfold dxV; split
  · split <;> exact ⟨_, _, _, _, _, rfl⟩
  · exact ⟨_, _, _, _, _, rfl⟩
set_option maxHeartbeats 1000000 in
set_option maxRecDepth 100000 in
theorem odi_any (s : ByteArray) (hs : s.size ≤ 1000000000000) (a : Int) (h0 : -9223372036854775808 ≤ a) (h1 : a ≤ 9223372036854775807) (w : World) :
    Calls Try.prog 88 #[.string s, .int .i64 a] w fun e w' => e = .returned (diV s.data.toList a) ∧ Below w.heap.size w w' := by
  have HM := Lib.hid (Mine.new w 0 0 ⟨#[]⟩)
  have HW := Lib.hid (fun x y z => below_box w (.cells #[.int .i64 x, .int .i64 y, .string z] 30))
  have HI := Lib.hid (W.takeInt_any s a h0 h1 hs)
  have HR := Lib.hid (oint_any (W.iV s.data.toList a))
  unfold diV
  by_cases e1 : W.tE s.data.toList a = 0
  · rw [if_pos e1]
    rw [e1] at HI
    generalize W.iV s.data.toList a = n at HI HR ⊢
    generalize W.tN s.data.toList a = M at HI ⊢
    clear e1
    go_enter Try.func88, Try.ntmps88
    go_wp2_with fail
    refine (HI.out _).mono ?_; rintro e w1 ⟨rfl, rfl⟩
    go_wp2_with fail
    refine (HR.out _).mono ?_; rintro e w2 ⟨rfl, hb2⟩
    obtain ⟨⟨x0, x1, x2, c0, c1, c2⟩, d0, d1, d2⟩ := HM.out.below hb2 (by simp)
    go_wp2_with fail
    obtain ⟨q0, q1, q2⟩ := stored ⟨c0, c1, c2⟩ 1 n ⟨#[]⟩
    refine bodyPost_ret (v := .tuple #[.agg #[.int .i64 1, .int .i64 n, .string ⟨#[]⟩], .int .i64 M, .int .i64 0]) (by simp [results, Try.results88, go_sem, q0, q1, q2]) rfl ⟨?_, stored_below (below_2 (HW.out _ _ _) hb2) (Nat.le_refl _) _ _ _⟩
    rfl
  · rw [if_neg e1]
    have bE : (W.tE s.data.toList a != 0) = true := bne_iff_ne.2 e1
    generalize W.tE s.data.toList a = E at HI bE ⊢
    generalize W.iV s.data.toList a = n at HI
    generalize W.tN s.data.toList a = M at HI
    clear e1 HR
    go_enter Try.func88, Try.ntmps88
    go_wp2_with fail
    refine (HI.out _).mono ?_; rintro e w1 ⟨rfl, rfl⟩
    go_wp2_with fail
    refine bodyPost_ret (v := .tuple #[.agg #[.int .i64 0, .int .i64 0, .string ⟨#[]⟩], .int .i64 0, .int .i64 E]) (by simp [results, Try.results88, go_sem]) rfl ⟨?_, HW.out _ _ _⟩
    rfl
set_option maxHeartbeats 1000000 in
set_option maxRecDepth 100000 in
theorem odx_any (s : ByteArray) (hs : s.size ≤ 1000000000000) (a : Int) (h0 : -9223372036854775808 ≤ a) (h1 : a ≤ 9223372036854775807) (w : World) :
    Calls Try.prog 89 #[.string s, .int .i64 a] w fun e w' => e = .returned (dxV s.data.toList a) ∧ Below w.heap.size w w' := by
  have HM := Lib.hid (Mine.new w 0 0 ⟨#[]⟩)
  have HW := Lib.hid (fun x y z => below_box w (.cells #[.int .i64 x, .int .i64 y, .string z] 30))
  have HX := Lib.hid (W.takeText_any s a 64 h0 h1 (by decide) (by decide) hs)
  have HP := Lib.hid (oplain_any ⟨(W.xV s.data.toList a 64).toArray⟩ (by have := xV_size (l := s.data.toList) (a := a) (m := 64); rw [← size_len] at this; omega))
  have HPL : Hid (plain (ByteArray.mk (W.xV s.data.toList a 64).toArray).data.toList = plain (W.xV s.data.toList a 64)) := rfl
  rw [HPL.out] at HP
  have HN := Lib.hid (onew_any ⟨(W.xV s.data.toList a 64).toArray⟩)
  unfold dxV
  by_cases e1 : W.xE s.data.toList a 64 = 0
  · rw [if_pos e1]
    rw [e1] at HX
    generalize plain (W.xV s.data.toList a 64) = P at HP ⊢
    generalize ByteArray.mk (W.xV s.data.toList a 64).toArray = t at HX HP HN ⊢
    generalize W.xN s.data.toList a 64 = M at HX ⊢
    clear e1 HPL
    cases P
    · go_enter Try.func89, Try.ntmps89
      go_wp2_with fail
      refine (HX.out _).mono ?_; rintro e w9 ⟨rfl, hbx⟩
      obtain ⟨⟨x0, x1, x2, c0, c1, c2⟩, d0, d1, d2⟩ := HM.out.below hbx (by simp)
      go_wp2_with fail
      refine (HP.out _).mono ?_; rintro e w2 ⟨rfl, rfl⟩
      go_wp2_with fail
      obtain ⟨q0, q1, q2⟩ := stored ⟨c0, c1, c2⟩ (0) (0) ⟨#[]⟩
      refine bodyPost_ret (v := .tuple #[.agg #[.int .i64 0, .int .i64 0, .string ⟨#[]⟩], .int .i64 0, .int .i64 5]) (by simp [results, Try.results89, go_sem, q0, q1, q2]) rfl ⟨?_, stored_below (below_2 (HW.out _ _ _) hbx) (Nat.le_refl _) _ _ _⟩
      rfl
    · go_enter Try.func89, Try.ntmps89
      go_wp2_with fail
      refine (HX.out _).mono ?_; rintro e w9 ⟨rfl, hbx⟩
      have hzx := hbx.size
      simp at hzx
      go_wp2_with fail
      refine (HP.out _).mono ?_; rintro e w2 ⟨rfl, he⟩; obtain rfl : w9 = w2 := he.symm
      go_wp2_with fail
      refine (HN.out _).mono ?_; rintro e w3 ⟨rfl, hb3⟩
      obtain ⟨⟨x0, x1, x2, c0, c1, c2⟩, d0, d1, d2⟩ := (HM.out.below hbx (by simp)).below hb3 (by omega)
      go_wp2_with fail
      obtain ⟨q0, q1, q2⟩ := stored ⟨c0, c1, c2⟩ (2) (0) t
      refine bodyPost_ret (v := .tuple #[.agg #[.int .i64 2, .int .i64 0, .string t], .int .i64 M, .int .i64 0]) (by simp [results, Try.results89, go_sem, q0, q1, q2]) rfl ⟨?_, stored_below (below_2 (below_2 (HW.out _ _ _) hbx) hb3) (Nat.le_refl _) _ _ _⟩
      rfl
  · rw [if_neg e1]
    have bE : (W.xE s.data.toList a 64 != 0) = true := bne_iff_ne.2 e1
    generalize W.xE s.data.toList a 64 = E at HX bE ⊢
    generalize ByteArray.mk (W.xV s.data.toList a 64).toArray = t at HX
    generalize W.xN s.data.toList a 64 = M at HX
    clear e1 HP HN HPL
    go_enter Try.func89, Try.ntmps89
    go_wp2_with fail
    refine (HX.out _).mono ?_; rintro e w9 ⟨rfl, hbx⟩
    obtain ⟨⟨x0, x1, x2, c0, c1, c2⟩, d0, d1, d2⟩ := HM.out.below hbx (by simp)
    go_wp2_with fail
    obtain ⟨q0, q1, q2⟩ := stored ⟨c0, c1, c2⟩ (0) (0) ⟨#[]⟩
    refine bodyPost_ret (v := .tuple #[.agg #[.int .i64 0, .int .i64 0, .string ⟨#[]⟩], .int .i64 0, .int .i64 E]) (by simp [results, Try.results89, go_sem, q0, q1, q2]) rfl ⟨?_, stored_below (below_2 (HW.out _ _ _) hbx) (Nat.le_refl _) _ _ _⟩
    rfl
set_option maxHeartbeats 2000000 in
set_option maxRecDepth 100000 in
theorem odec_any (s : ByteArray) (hs : s.size ≤ 1000000000000) (a : Int) (h0 : -9223372036854775808 ≤ a) (h1 : a ≤ 9223372036854775807) (w : World) :
    Calls Try.prog 69 #[.string s, .int .i64 a] w fun e w' => e = .returned (tripV (ds s.data.toList a)) ∧ Below w.heap.size w w' := by
  have HM := Lib.hid (Mine.new w 0 0 ⟨#[]⟩)
  have HW := Lib.hid (fun x y z => below_box w (.cells #[.int .i64 x, .int .i64 y, .string z] 30))
  have HT := Lib.hid (W.take_any s a h0 h1 (by omega))
  by_cases e0 : W.tE s.data.toList a = 0
  · have hn := W.tN_bd e0
    rw [← size_len] at hn
    have hI := odi_any s hs (W.tN s.data.toList a) (by omega) (by omega)
    have hX := odx_any s hs (W.tN s.data.toList a) (by omega) (by omega)
    clear hn
    by_cases v0 : W.tV s.data.toList a = 0
    · have HV := Lib.hid (trip_nil e0 v0)
      rw [e0, v0] at HT
      generalize tripV (ds s.data.toList a) = V at HV
      generalize W.tN s.data.toList a = N at HT HV
      clear e0 v0 hI hX
      go_enter Try.func69, Try.ntmps69
      go_wp2_with fail
      refine (HT.out _).mono ?_; rintro e w1 ⟨rfl, rfl⟩
      go_wp2_with fail
      refine bodyPost_ret (v := .tuple #[.agg #[.int .i64 0, .int .i64 0, .string ⟨#[]⟩], .int .i64 N, .int .i64 0]) (by simp [results, Try.results69, go_sem]) rfl ⟨?_, HW.out _ _ _⟩
      rw [HV.out]
    · by_cases v1 : W.tV s.data.toList a = 1
      · have hV := trip_int_all e0 v1
        obtain ⟨k, n, t, M, E, hD⟩ := diV_form s.data.toList (W.tN s.data.toList a)
        rw [hD] at hV hI
        have HV := Lib.hid hV
        have HI := Lib.hid hI
        rw [e0, v1] at HT
        generalize tripV (ds s.data.toList a) = V at HV
        generalize W.tN s.data.toList a = N at HT HI
        clear e0 v0 v1 hI hX hV hD
        go_enter Try.func69, Try.ntmps69
        go_wp2_with fail
        refine (HT.out _).mono ?_; rintro e w1 ⟨rfl, rfl⟩
        go_wp2_with fail
        refine (HI.out _).mono ?_; rintro e w2 ⟨rfl, hb2⟩
        obtain ⟨⟨x0, x1, x2, c0, c1, c2⟩, d0, d1, d2⟩ := HM.out.below hb2 (by simp)
        go_wp2_with fail
        obtain ⟨q0, q1, q2⟩ := stored ⟨c0, c1, c2⟩ k n t
        refine bodyPost_ret (v := .tuple #[.agg #[.int .i64 k, .int .i64 n, .string t], .int .i64 M, .int .i64 E]) (by simp [results, Try.results69, go_sem, q0, q1, q2]) rfl ⟨?_, stored_below (below_2 (HW.out _ _ _) hb2) (Nat.le_refl _) _ _ _⟩
        rw [HV.out]
      · by_cases v2 : W.tV s.data.toList a = 2
        · have hV := trip_str_all e0 v2
          obtain ⟨k, n, t, M, E, hD⟩ := dxV_form s.data.toList (W.tN s.data.toList a)
          rw [hD] at hV hX
          have HV := Lib.hid hV
          have HI := Lib.hid hX
          rw [e0, v2] at HT
          generalize tripV (ds s.data.toList a) = V at HV
          generalize W.tN s.data.toList a = N at HT HI
          clear e0 v0 v1 v2 hI hX hV hD
          go_enter Try.func69, Try.ntmps69
          go_wp2_with fail
          refine (HT.out _).mono ?_; rintro e w1 ⟨rfl, rfl⟩
          go_wp2_with fail
          refine (HI.out _).mono ?_; rintro e w2 ⟨rfl, hb2⟩
          obtain ⟨⟨x0, x1, x2, c0, c1, c2⟩, d0, d1, d2⟩ := HM.out.below hb2 (by simp)
          go_wp2_with fail
          obtain ⟨q0, q1, q2⟩ := stored ⟨c0, c1, c2⟩ k n t
          refine bodyPost_ret (v := .tuple #[.agg #[.int .i64 k, .int .i64 n, .string t], .int .i64 M, .int .i64 E]) (by simp [results, Try.results69, go_sem, q0, q1, q2]) rfl ⟨?_, stored_below (below_2 (HW.out _ _ _) hb2) (Nat.le_refl _) _ _ _⟩
          rw [HV.out]
        · have HV := Lib.hid (trip_bad e0 v0 v1 v2)
          have b0 : (W.tV s.data.toList a == 0) = false := beq_eq_false_iff_ne.2 v0
          have b1 : (W.tV s.data.toList a == 1) = false := beq_eq_false_iff_ne.2 v1
          have b2 : (W.tV s.data.toList a == 2) = false := beq_eq_false_iff_ne.2 v2
          rw [e0] at HT
          generalize tripV (ds s.data.toList a) = V at HV
          generalize W.tV s.data.toList a = K at HT b0 b1 b2
          generalize W.tN s.data.toList a = N at HT
          clear e0 v0 v1 v2 hI hX
          go_enter Try.func69, Try.ntmps69
          go_wp2_with fail
          refine (HT.out _).mono ?_; rintro e w1 ⟨rfl, rfl⟩
          go_wp2_with fail
          refine bodyPost_ret (v := .tuple #[.agg #[.int .i64 0, .int .i64 0, .string ⟨#[]⟩], .int .i64 0, .int .i64 5]) (by simp [results, Try.results69, go_sem]) rfl ⟨?_, HW.out _ _ _⟩
          rw [HV.out]; rfl
  · have HV := Lib.hid (trip_err e0)
    have bE : (W.tE s.data.toList a != 0) = true := bne_iff_ne.2 e0
    generalize tripV (ds s.data.toList a) = V at HV
    generalize W.tE s.data.toList a = E at HT HV bE
    generalize W.tV s.data.toList a = K at HT
    generalize W.tN s.data.toList a = N at HT
    clear e0
    go_enter Try.func69, Try.ntmps69
    go_wp2_with fail
    refine (HT.out _).mono ?_; rintro e w1 ⟨rfl, rfl⟩
    go_wp2_with fail
    refine bodyPost_ret (v := .tuple #[.agg #[.int .i64 0, .int .i64 0, .string ⟨#[]⟩], .int .i64 0, .int .i64 E]) (by simp [results, Try.results69, go_sem]) rfl ⟨?_, HW.out _ _ _⟩
    rw [HV.out]; rfl
end Go.Proofs.Ytieloegadhgipaa.V
