/-
  Plain mathematics of layer 5, without the program: values, their order and their texts.
-/
import Derived.Test.YtcedndjpdgpdgaaDoorPlain
namespace Go.Proofs.YtcedndjpdgpdgaaDoor.V
open Go.Lib (itoa decDigits)

/-! ### the order of strings, by ranks -/

theorem count_le {α : Type} {p q : α → Bool} : ∀ (l : List α), (∀ x ∈ l, p x = true → q x = true) → l.countP p ≤ l.countP q
  | [], _ => Nat.le_refl _
  | a :: l, h => by
    have ih := count_le l fun x hx => h x (List.mem_cons_of_mem a hx)
    have ha := h a List.mem_cons_self
    rw [List.countP_cons, List.countP_cons]
    by_cases hp : p a = true
    · rw [if_pos hp, if_pos (ha hp)]; omega
    · rw [if_neg hp]; omega
theorem count_lt {α : Type} {p q : α → Bool} {y : α} (hp : ¬ p y = true) (hq : q y = true) : ∀ (l : List α), y ∈ l → (∀ x ∈ l, p x = true → q x = true) → l.countP p < l.countP q
  | [], hy, _ => by cases hy
  | a :: l, hy, h => by
    rw [List.countP_cons, List.countP_cons]
    have hle := count_le l fun x hx => h x (List.mem_cons_of_mem a hx)
    rcases List.mem_cons.1 hy with rfl | hy
    · rw [if_neg hp, if_pos hq]; omega
    · have ih := count_lt hp hq l hy fun x hx => h x (List.mem_cons_of_mem a hx)
      have ha := h a List.mem_cons_self
      by_cases hpa : p a = true
      · rw [if_pos hpa, if_pos (ha hpa)]; omega
      · rw [if_neg hpa]; omega
theorem lt_irr (a : List UInt8) : ¬ a < a := List.lt_irrefl a
theorem lt_tri {a b : List UInt8} (h : ¬ a < b) (h2 : ¬ b < a) : a = b := List.le_antisymm h2 h
theorem lt_tra {a b c : List UInt8} (h : a < b) (h2 : b < c) : a < c := List.lt_trans h h2
/-- Of any few strings the order is that of numbers. -/
theorem rank (S : List (List UInt8)) : ∃ r : List UInt8 → Nat, ∀ a ∈ S, ∀ b ∈ S, (a < b ↔ r a < r b) ∧ (a = b ↔ r a = r b) := by
  let r : List UInt8 → Nat := fun a => S.countP fun x => decide (x < a)
  have up : ∀ a ∈ S, ∀ b ∈ S, a < b → r a < r b := by
    intro a ha b _ h
    refine count_lt (y := a) (by simp [lt_irr a]) (by simpa using h) S ha ?_
    intro x _ hx
    simp only [decide_eq_true_eq] at *
    exact lt_tra hx h
  refine ⟨r, fun a ha b hb => ?_⟩
  have h1 := up a ha b hb
  have h2 := up b hb a ha
  by_cases e : a = b
  · subst e; exact ⟨⟨fun h => absurd h (lt_irr a), fun h => absurd h (Nat.lt_irrefl _)⟩, ⟨fun _ => rfl, fun _ => rfl⟩⟩
  · by_cases h : a < b
    · have := h1 h
      exact ⟨⟨fun _ => this, fun _ => h⟩, ⟨fun h => absurd h e, fun h => by omega⟩⟩
    · have h' : b < a := Decidable.byContradiction fun h' => e (lt_tri h h')
      have := h2 h'
      exact ⟨⟨fun hh => absurd hh h, fun hh => by omega⟩, ⟨fun h => absurd h e, fun h => by omega⟩⟩

/-! ### values and their order -/

/-- a value: its kind, its number, its bytes -/
structure Val where
  k : Int
  n : Int
  s : List UInt8
theorem Val.eq {a b : Val} (h1 : a.k = b.k) (h2 : a.n = b.n) (h3 : a.s = b.s) : a = b := by
  cases a; cases b; simp only at h1 h2 h3; subst h1 h2 h3; rfl
def less (a b : Val) : Bool := decide (a.k < b.k ∨ (a.k = b.k ∧ (a.n < b.n ∨ (a.n = b.n ∧ a.s < b.s))))
def cmp (a b : Val) : Int := if less a b then -1 else if less b a then 1 else 0
theorem less_iff {a b : Val} : less a b = true ↔ (a.k < b.k ∨ (a.k = b.k ∧ (a.n < b.n ∨ (a.n = b.n ∧ a.s < b.s)))) := decide_eq_true_iff
theorem cmp_neg (a b : Val) : cmp b a = -cmp a b := by
  obtain ⟨r, hr⟩ := rank [a.s, b.s]
  have e1 := (hr a.s (by simp) b.s (by simp)).1
  have e2 := (hr b.s (by simp) a.s (by simp)).1
  unfold cmp
  by_cases h1 : less a b = true
  · have h2 : ¬ less b a = true := by
      rw [less_iff, e1] at h1
      rw [less_iff, e2]
      omega
    rw [if_pos h1, if_neg h2, if_pos h1]; rfl
  · by_cases h2 : less b a = true
    · rw [if_pos h2, if_neg h1, if_pos h2]
    · rw [if_neg h2, if_neg h1, if_neg h1, if_neg h2]; rfl
theorem cmp_zero (a b : Val) : cmp a b = 0 ↔ a = b := by
  obtain ⟨r, hr⟩ := rank [a.s, b.s]
  have e1 := (hr a.s (by simp) b.s (by simp)).1
  have e2 := (hr b.s (by simp) a.s (by simp)).1
  have e3 := (hr a.s (by simp) b.s (by simp)).2
  unfold cmp
  constructor
  · intro h
    by_cases h1 : less a b = true
    · rw [if_pos h1] at h; omega
    · by_cases h2 : less b a = true
      · rw [if_neg h1, if_pos h2] at h; omega
      · rw [less_iff, e1] at h1
        rw [less_iff, e2] at h2
        exact Val.eq (by omega) (by omega) (e3.2 (by omega))
  · rintro rfl
    have h1 : ¬ less a a = true := by rw [less_iff, e1]; omega
    rw [if_neg h1, if_neg h1]
theorem cmp_tra (a b c : Val) (h1 : cmp a b ≤ 0) (h2 : cmp b c ≤ 0) : cmp a c ≤ 0 := by
  obtain ⟨r, hr⟩ := rank [a.s, b.s, c.s]
  have e1 := (hr b.s (by simp) a.s (by simp)).1
  have e2 := (hr c.s (by simp) b.s (by simp)).1
  have e3 := (hr c.s (by simp) a.s (by simp)).1
  have key : ∀ x y : Val, cmp x y ≤ 0 ↔ ¬ less y x = true := by
    intro x y
    have hn := cmp_neg x y
    unfold cmp at *
    by_cases h : less x y = true
    · have : ¬ less y x = true := by
        intro h2
        simp only [h, h2, if_true] at hn
        exact absurd hn (by decide)
      rw [if_pos h]
      exact ⟨fun _ => this, fun _ => by omega⟩
    · rw [if_neg h]
      by_cases h2 : less y x = true
      · rw [if_pos h2]
        exact ⟨fun h3 => by omega, fun h3 => absurd h2 h3⟩
      · rw [if_neg h2]
        exact ⟨fun _ => h2, fun _ => by omega⟩
  rw [key] at h1 h2 ⊢
  rw [less_iff, e1] at h1
  rw [less_iff, e2] at h2
  rw [less_iff, e3]
  generalize r a.s = x at *
  generalize r b.s = y at *
  generalize r c.s = z at *
  simp only [not_or, not_and] at h1 h2
  rintro (h | ⟨hk, h | ⟨hn, h⟩⟩) <;> omega

/-! ### valid values -/

def prt (c : UInt8) : Bool := decide (32 ≤ c.toNat ∧ c.toNat ≤ 126)
def plain (l : List UInt8) : Bool := decide (l.length ≤ 64) && l.all prt
def valid (v : Val) : Bool := decide ((v.k = 0 ∧ v.n = 0 ∧ v.s = []) ∨ (v.k = 1 ∧ v.s = []) ∨ (v.k = 2 ∧ v.n = 0 ∧ plain v.s = true))
theorem valid_iff {v : Val} : valid v = true ↔ ((v.k = 0 ∧ v.n = 0 ∧ v.s = []) ∨ (v.k = 1 ∧ v.s = []) ∨ (v.k = 2 ∧ v.n = 0 ∧ plain v.s = true)) := decide_eq_true_iff
theorem plain_iff {l : List UInt8} : plain l = true ↔ l.length ≤ 64 ∧ l.all prt = true := by unfold plain; rw [Bool.and_eq_true, decide_eq_true_iff]

/-! ### texts -/

def esc (c : UInt8) : List UInt8 := if c = 34 ∨ c = 92 then [92, c] else [c]
def quote (l : List UInt8) : List UInt8 := 34 :: (l.flatMap esc ++ [34])
/-- the bytes of a text behind its first double quote -/
def un : List UInt8 → Option (List UInt8)
  | [] => none
  | [c] => if c = 34 then some [] else none
  | c :: d :: r =>
    if c = 34 then none
    else if c = 92 then (if d = 34 ∨ d = 92 then (un r).map (d :: ·) else none)
    else if prt c then (un (d :: r)).map (c :: ·) else none
theorem un_one (c : UInt8) : un [c] = if c = 34 then some [] else none := by rw [un]
theorem un_two (c d : UInt8) (r : List UInt8) : un (c :: d :: r) = if c = 34 then none
    else if c = 92 then (if d = 34 ∨ d = 92 then (un r).map (d :: ·) else none)
    else if prt c then (un (d :: r)).map (c :: ·) else none := by rw [un]
theorem un_plain {c : UInt8} {r : List UInt8} (h1 : c ≠ 34) (h2 : c ≠ 92) (hr : r ≠ []) : un (c :: r) = if prt c then (un r).map (c :: ·) else none := by
  cases r with
  | nil => exact absurd rfl hr
  | cons d r => rw [un_two, if_neg h1, if_neg h2]
/-- What is quoted is read back. -/
theorem un_quote : ∀ t : List UInt8, t.all prt = true → un (t.flatMap esc ++ [34]) = some t
  | [], _ => by rw [List.flatMap_nil, List.nil_append, un_one, if_pos rfl]
  | c :: t, h => by
    rw [List.all_cons, Bool.and_eq_true] at h
    have ih := un_quote t h.2
    rw [List.flatMap_cons, List.append_assoc]
    unfold esc
    by_cases hc : c = 34 ∨ c = 92
    · rw [if_pos hc]
      show un (92 :: c :: _) = _
      rw [un_two, if_neg (by decide), if_pos rfl, if_pos hc]
      show (un (t.flatMap esc ++ [34])).map _ = _
      rw [ih]; rfl
    · rw [if_neg hc]
      show un (c :: (t.flatMap esc ++ [34])) = _
      rw [un_plain (fun e => hc (Or.inl e)) (fun e => hc (Or.inr e)) (by simp), if_pos h.1, ih]; rfl
/-- What is read is quoted so. -/
theorem un_back (n : Nat) : ∀ (l t : List UInt8), l.length ≤ n → un l = some t → l = t.flatMap esc ++ [34] ∧ t.all prt = true := by
  induction n with
  | zero =>
    intro l t hl h
    have : l = [] := List.length_eq_zero_iff.1 (by omega)
    subst this
    simp [un] at h
  | succ n ih =>
    intro l t hl h
    match l, h with
    | [], h => simp [un] at h
    | [c], h =>
      rw [un_one] at h
      by_cases hc : c = 34
      · rw [if_pos hc] at h
        cases h
        subst hc
        exact ⟨rfl, rfl⟩
      · rw [if_neg hc] at h; cases h
    | c :: d :: r, h =>
      rw [un_two] at h
      by_cases h1 : c = 34
      · rw [if_pos h1] at h; cases h
      · rw [if_neg h1] at h
        by_cases h2 : c = 92
        · rw [if_pos h2] at h
          by_cases h3 : d = 34 ∨ d = 92
          · rw [if_pos h3] at h
            cases hu : un r with
            | none => rw [hu] at h; cases h
            | some t' =>
              rw [hu] at h
              cases h
              have := ih r t' (by simp at hl; omega) hu
              subst h2
              refine ⟨?_, ?_⟩
              · rw [List.flatMap_cons]
                have e : esc d = [92, d] := by unfold esc; rw [if_pos h3]
                rw [e, List.append_assoc, ← this.1]; rfl
              · rw [List.all_cons, this.2, Bool.and_true]
                rcases h3 with rfl | rfl <;> rfl
          · rw [if_neg h3] at h; cases h
        · rw [if_neg h2] at h
          by_cases h3 : prt c = true
          · rw [if_pos h3] at h
            cases hu : un (d :: r) with
            | none => rw [hu] at h; cases h
            | some t' =>
              rw [hu] at h
              cases h
              have := ih (d :: r) t' (by simp at hl ⊢; omega) hu
              refine ⟨?_, ?_⟩
              · rw [List.flatMap_cons]
                have e : esc c = [c] := by unfold esc; rw [if_neg (fun e => e.elim h1 h2)]
                rw [e, List.append_assoc, ← this.1]; rfl
              · rw [List.all_cons, this.2, Bool.and_true]; exact h3
          · rw [if_neg h3] at h; cases h
/-- nil -/
def nilText : List UInt8 := [110, 105, 108]
/-- the text of a value -/
def fmt (v : Val) : List UInt8 := if valid v then (if v.k = 0 then nilText else if v.k = 1 then itoa v.n else quote v.s) else []
/-- what Parse returns: the value, the error -/
def ps (l : List UInt8) : Val × Int :=
  if l = nilText then (⟨0, 0, []⟩, 0)
  else if l.head? = some 34 then
    match un l.tail with
    | none => (⟨0, 0, []⟩, 5)
    | some t => if t.length ≤ 64 then (⟨2, 0, t⟩, 0) else (⟨0, 0, []⟩, 2)
  else if pE l = 0 then (⟨1, pV l, []⟩, 0) else (⟨0, 0, []⟩, pE l)
theorem ps_nil : ps nilText = (⟨0, 0, []⟩, 0) := if_pos rfl
theorem ps_num {l : List UInt8} (h1 : l ≠ nilText) (h2 : l.head? ≠ some 34) : ps l = if pE l = 0 then (⟨1, pV l, []⟩, 0) else (⟨0, 0, []⟩, pE l) := by
  unfold ps; rw [if_neg h1, if_neg h2]
theorem ps_none {r : List UInt8} (h : un r = none) : ps (34 :: r) = (⟨0, 0, []⟩, 5) := by
  unfold ps
  rw [if_neg (by intro h; unfold nilText at h; injection h with h3 _; exact absurd h3 (by decide)), if_pos (show (34 :: r).head? = some 34 from rfl)]
  show (match un r with | none => _ | some t => _) = _
  rw [h]
theorem ps_some {r t : List UInt8} (h : un r = some t) : ps (34 :: r) = if t.length ≤ 64 then (⟨2, 0, t⟩, 0) else (⟨0, 0, []⟩, 2) := by
  unfold ps
  rw [if_neg (by intro h; unfold nilText at h; injection h with h3 _; exact absurd h3 (by decide)), if_pos (show (34 :: r).head? = some 34 from rfl)]
  show (match un r with | none => _ | some t => _) = _
  rw [h]
theorem dec_head2 (u : Nat) : ∃ c r, decDigits u = c :: r ∧ isDig c = true := by
  have h := dec_dig u
  have h2 := (dec_head u).1
  cases hd : decDigits u with
  | nil => exact absurd hd h2
  | cons c r =>
    rw [hd, List.all_cons, Bool.and_eq_true] at h
    exact ⟨c, r, rfl, h.1⟩
/-- A number's text begins with a digit or a minus. -/
theorem itoa_head (n : Int) : ∃ c r, itoa n = c :: r ∧ (c = 45 ∨ isDig c = true) := by
  unfold Lib.itoa
  by_cases hn : n < 0
  · rw [if_pos hn]; exact ⟨45, _, rfl, Or.inl rfl⟩
  · rw [if_neg hn]
    obtain ⟨c, r, h, hc⟩ := dec_head2 n.toNat
    exact ⟨c, r, h, Or.inr hc⟩
theorem itoa_ne (n : Int) : itoa n ≠ nilText ∧ (itoa n).head? ≠ some 34 ∧ itoa n ≠ [] := by
  obtain ⟨c, r, h, hc⟩ := itoa_head n
  rw [h]
  have key : c ≠ 110 ∧ c ≠ 34 := by
    rcases hc with rfl | hc
    · exact ⟨by decide, by decide⟩
    · have := dig_bd hc
      constructor
      · rintro rfl
        have e : (110 : UInt8).toNat = 110 := rfl
        omega
      · rintro rfl
        have e : (34 : UInt8).toNat = 34 := rfl
        omega
  refine ⟨?_, ?_, by simp⟩
  · intro e
    injection e with e1 _
    exact key.1 e1
  · intro e
    injection e with e1
    exact key.2 e1
/-- (P5.3, P5.4, P5.6) A valid value is restored from its text. -/
theorem ps_fmt {v : Val} (h : valid v = true) (h0 : -9223372036854775808 ≤ v.n) (h1 : v.n ≤ 9223372036854775807) : ps (fmt v) = (v, 0) := by
  obtain ⟨k, n, s⟩ := v
  unfold fmt
  rw [if_pos h]
  rcases valid_iff.1 h with ⟨hk, hn, hs⟩ | ⟨hk, hs⟩ | ⟨hk, hn, hs⟩
  · simp only at hk hn hs ⊢
    subst hk hn hs
    rw [if_pos rfl, ps_nil]
  · simp only at hk hs h0 h1 ⊢
    subst hk hs
    rw [if_neg (by decide), if_pos rfl]
    obtain ⟨g1, g2, _⟩ := itoa_ne n
    obtain ⟨p1, p2⟩ := parse_itoa ⟨h0, h1⟩
    rw [ps_num g1 g2, if_pos p2, p1]
  · simp only at hk hn hs ⊢
    subst hk hn
    rw [if_neg (by decide), if_neg (by decide)]
    obtain ⟨hl, hp⟩ := plain_iff.1 hs
    show ps (34 :: (s.flatMap esc ++ [34])) = _
    rw [ps_some (un_quote s hp), if_pos hl]
/-- What Parse accepts is the text of a valid value. -/
theorem fmt_ps {l : List UInt8} (h : (ps l).2 = 0) : valid (ps l).1 = true ∧ fmt (ps l).1 = l := by
  by_cases h1 : l = nilText
  · subst h1; rw [ps_nil]; exact ⟨rfl, rfl⟩
  · by_cases h2 : l.head? = some 34
    · obtain ⟨r, rfl⟩ : ∃ r, l = 34 :: r := by
        cases l with
        | nil => cases h2
        | cons c r => injection h2 with h2; subst h2; exact ⟨r, rfl⟩
      cases hu : un r with
      | none => rw [ps_none hu] at h; exact absurd h (by decide)
      | some t =>
        rw [ps_some hu] at h ⊢
        by_cases hl : t.length ≤ 64
        · rw [if_pos hl]
          obtain ⟨hb, hp⟩ := un_back _ r t (Nat.le_refl _) hu
          have hv : valid ⟨2, 0, t⟩ = true := valid_iff.2 (Or.inr (Or.inr ⟨rfl, rfl, plain_iff.2 ⟨hl, hp⟩⟩))
          refine ⟨hv, ?_⟩
          show (if valid ⟨2, 0, t⟩ then _ else _) = _
          rw [if_pos hv]
          show 34 :: (t.flatMap esc ++ [34]) = _
          rw [← hb]
        · rw [if_neg hl] at h; exact absurd h (by decide)
    · rw [ps_num h1 h2] at h ⊢
      by_cases he : pE l = 0
      · rw [if_pos he]
        have hv : valid ⟨1, pV l, []⟩ = true := valid_iff.2 (Or.inr (Or.inl ⟨rfl, rfl⟩))
        refine ⟨hv, ?_⟩
        show (if valid ⟨1, pV l, []⟩ then _ else _) = _
        rw [if_pos hv]
        exact itoa_parse he
      · rw [if_neg he] at h; exact absurd h he
theorem fmt_ne {v : Val} : fmt v ≠ [] ↔ valid v = true := by
  unfold fmt
  cases hv : valid v
  · exact ⟨fun h => absurd rfl h, fun h => by cases h⟩
  · rw [if_pos rfl]
    refine ⟨fun _ => rfl, fun _ => ?_⟩
    split
    · decide
    · split
      · exact (itoa_ne v.n).2.2
      · exact List.cons_ne_nil _ _
/-- (P5.6) Different valid values have different texts. -/
theorem fmt_inj {a b : Val} (ha : valid a = true) (hb : valid b = true) (a0 : -9223372036854775808 ≤ a.n) (a1 : a.n ≤ 9223372036854775807) (b0 : -9223372036854775808 ≤ b.n) (b1 : b.n ≤ 9223372036854775807)
    (h : fmt a = fmt b) : a = b := by
  have e1 := ps_fmt ha a0 a1
  have e2 := ps_fmt hb b0 b1
  rw [h, e2] at e1
  exact (Prod.mk.inj e1).1.symm
end Go.Proofs.YtcedndjpdgpdgaaDoor.V
