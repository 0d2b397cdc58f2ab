/-
  Plain mathematics of layer 4, without the program: keys, bounds and ranges over lists of bytes; what the ranges of intersections, splits and prefixes contain.
-/
namespace Go.Proofs.Ytbakojnapikfeaa

/-! ### the order of strings, by ranks -/

theorem count_le {α : Type} {p q : α → Bool} : ∀ (l : List α), (∀ x ∈ l, p x = true → q x = true) → l.countP p ≤ l.countP q
  | [], _ => Nat.le_refl _
  | a :: l, h => by
    have ih := count_le l fun x hx => h x (List.mem_cons_of_mem a hx)
    have ha := h a List.mem_cons_self
    rw [List.countP_cons, List.countP_cons]
    by_cases hp : p a = true
    · rw [if_pos hp, if_pos (ha hp)]; omega
    · rw [if_neg hp]; omega
theorem count_lt {α : Type} {p q : α → Bool} {y : α} (hp : ¬ p y = true) (hq : q y = true) : ∀ (l : List α), y ∈ l → (∀ x ∈ l, p x = true → q x = true) → l.countP p < l.countP q
  | [], hy, _ => by cases hy
  | a :: l, hy, h => by
    rw [List.countP_cons, List.countP_cons]
    have hle := count_le l fun x hx => h x (List.mem_cons_of_mem a hx)
    rcases List.mem_cons.1 hy with rfl | hy
    · rw [if_neg hp, if_pos hq]; omega
    · have ih := count_lt hp hq l hy fun x hx => h x (List.mem_cons_of_mem a hx)
      have ha := h a List.mem_cons_self
      by_cases hpa : p a = true
      · rw [if_pos hpa, if_pos (ha hpa)]; omega
      · rw [if_neg hpa]; omega
theorem lt_irr (a : List UInt8) : ¬ a < a := List.lt_irrefl a
theorem lt_tri {a b : List UInt8} (h : ¬ a < b) (h2 : ¬ b < a) : a = b := List.le_antisymm h2 h
theorem lt_tra {a b c : List UInt8} (h : a < b) (h2 : b < c) : a < c := List.lt_trans h h2
theorem lt_nil (a : List UInt8) : ¬ a < [] := List.not_lt_nil a
/-- Of any few strings the order is that of numbers. -/
theorem rank (S : List (List UInt8)) : ∃ r : List UInt8 → Nat, ∀ a ∈ S, ∀ b ∈ S, (a < b ↔ r a < r b) ∧ (a = b ↔ r a = r b) := by
  let r : List UInt8 → Nat := fun a => S.countP fun x => decide (x < a)
  have up : ∀ a ∈ S, ∀ b ∈ S, a < b → r a < r b := by
    intro a ha b _ h
    refine count_lt (y := a) (by simp [lt_irr a]) (by simpa using h) S ha ?_
    intro x _ hx
    simp only [decide_eq_true_eq] at *
    exact lt_tra hx h
  refine ⟨r, fun a ha b hb => ?_⟩
  have h1 := up a ha b hb
  have h2 := up b hb a ha
  by_cases e : a = b
  · subst e; exact ⟨⟨fun h => absurd h (lt_irr a), fun h => absurd h (Nat.lt_irrefl _)⟩, ⟨fun _ => rfl, fun _ => rfl⟩⟩
  · by_cases h : a < b
    · have := h1 h
      exact ⟨⟨fun _ => this, fun _ => h⟩, ⟨fun h => absurd h e, fun h => by omega⟩⟩
    · have h' : b < a := Decidable.byContradiction fun h' => e (lt_tri h h')
      have := h2 h'
      exact ⟨⟨fun hh => absurd hh h, fun hh => by omega⟩, ⟨fun h => absurd h e, fun h => by omega⟩⟩

/-! ### keys, bounds, ranges -/

def okKey (c : UInt8) : Bool := decide (97 ≤ c.toNat ∧ c.toNat ≤ 122 ∨ 48 ≤ c.toNat ∧ c.toNat ≤ 57 ∨ c.toNat = 47 ∨ c.toNat = 46 ∨ c.toNat = 95 ∨ c.toNat = 45)
def okBound (c : UInt8) : Bool := decide (33 ≤ c.toNat ∧ c.toNat ≤ 126)
def valid (s : List UInt8) : Bool := decide (1 ≤ s.length ∧ s.length ≤ 24) && s.all okKey
def bound (s : List UInt8) : Bool := decide (s.length ≤ 24) && s.all okBound
/-- k is at most the upper end t, of which empty is the greatest. -/
def under (k t : List UInt8) : Bool := decide (t = [] ∨ k < t)
/-- the range from f to t is valid -/
def vr (f t : List UInt8) : Bool := bound f && bound t && under f t
/-- it contains k -/
def cont (f t k : List UInt8) : Bool := vr f t && decide (¬ k < f) && under k t
/-- the upper end t is at most the upper end u -/
def ends (t u : List UInt8) : Bool := decide (u = [] ∨ (t ≠ [] ∧ ¬ u < t))
def covers (fa ta fb tb : List UInt8) : Bool := !vr fb tb || (vr fa ta && decide (¬ fb < fa) && ends tb ta)
def mx (a b : List UInt8) : List UInt8 := if a < b then b else a
def mn (t u : List UInt8) : List UInt8 := if ends u t then u else t
/-- the two ranges meet -/
def meet (fa ta fb tb : List UInt8) : Bool := vr fa ta && vr fb tb && vr (mx fa fb) (mn ta tb)
/-- the range from f to t is split at k -/
def cuts (f t k : List UInt8) : Bool := vr f t && bound k && decide (f < k) && under k t

theorem under_iff {k t : List UInt8} : under k t = true ↔ (t = [] ∨ k < t) := decide_eq_true_iff
theorem ends_iff {t u : List UInt8} : ends t u = true ↔ (u = [] ∨ (t ≠ [] ∧ ¬ u < t)) := decide_eq_true_iff
theorem vr_iff {f t : List UInt8} : vr f t = true ↔ bound f = true ∧ bound t = true ∧ (t = [] ∨ f < t) := by
  simp only [vr, Bool.and_eq_true, under_iff, and_assoc]
theorem cont_iff {f t k : List UInt8} : cont f t k = true ↔ (bound f = true ∧ bound t = true ∧ (t = [] ∨ f < t)) ∧ ¬ k < f ∧ (t = [] ∨ k < t) := by
  simp only [cont, Bool.and_eq_true, under_iff, vr_iff, decide_eq_true_iff, and_assoc]
theorem covers_iff {fa ta fb tb : List UInt8} : covers fa ta fb tb = true ↔ ((bound fb = true ∧ bound tb = true ∧ (tb = [] ∨ fb < tb)) → (bound fa = true ∧ bound ta = true ∧ (ta = [] ∨ fa < ta)) ∧ ¬ fb < fa ∧ (ta = [] ∨ (tb ≠ [] ∧ ¬ ta < tb))) := by
  rw [← vr_iff, ← vr_iff]
  simp only [covers, Bool.or_eq_true, Bool.and_eq_true, ends_iff, decide_eq_true_iff, Bool.not_eq_true']
  cases vr fb tb <;> simp [and_assoc]
theorem bool_iff {x y : Bool} (h : x = true ↔ y = true) : x = y := by cases x <;> cases y <;> simp_all

/-- (P4.7) A range that covers another one contains what it contains. -/
theorem covers_cont {fa ta fb tb k : List UInt8} (h : covers fa ta fb tb = true) (hk : cont fb tb k = true) : cont fa ta k = true := by
  rw [covers_iff] at h
  rw [cont_iff] at hk ⊢
  obtain ⟨hv, h1, h2⟩ := hk
  obtain ⟨ha, h3, h4⟩ := h hv
  refine ⟨ha, ?_⟩
  clear h ha hv
  obtain ⟨r, hr⟩ := rank [fa, ta, fb, tb, k, []]
  have e1 := (hr fb (by simp) fa (by simp)).1
  have e2 := (hr ta (by simp) tb (by simp)).1
  have e3 := (hr k (by simp) fb (by simp)).1
  have e4 := (hr k (by simp) tb (by simp)).1
  have e5 := (hr k (by simp) fa (by simp)).1
  have e6 := (hr k (by simp) ta (by simp)).1
  rw [e1] at h3
  rw [e2] at h4
  rw [e3] at h1
  rw [e4] at h2
  rw [e5, e6]
  refine ⟨by omega, ?_⟩
  rcases h4 with h4 | ⟨h4, h5⟩
  · exact Or.inl h4
  · rcases h2 with h2 | h2
    · exact absurd h2 h4
    · exact Or.inr (by omega)

/-- What is contained in both is contained in the range that Intersect returns, and nothing if the ranges do not meet. -/
theorem both_cont (fa ta fb tb k : List UInt8) : (cont fa ta k && cont fb tb k) = (meet fa ta fb tb && cont (mx fa fb) (mn ta tb) k) := by
  have hbm : bound fa = true → bound fb = true → bound (mx fa fb) = true := by intro h1 h2; unfold mx; split <;> assumption
  have hbn : bound ta = true → bound tb = true → bound (mn ta tb) = true := by intro h1 h2; unfold mn; split <;> assumption
  have hmx : ¬ k < mx fa fb ↔ ¬ k < fa ∧ ¬ k < fb := by
    unfold mx
    obtain ⟨r, hr⟩ := rank [fa, fb, k]
    have e1 := (hr fa (by simp) fb (by simp)).1
    have e2 := (hr k (by simp) fa (by simp)).1
    have e3 := (hr k (by simp) fb (by simp)).1
    split
    · rename_i h; rw [e1] at h; rw [e2, e3]; omega
    · rename_i h; rw [e1] at h; rw [e2, e3]; omega
  have hmn : (mn ta tb = [] ∨ k < mn ta tb) ↔ (ta = [] ∨ k < ta) ∧ (tb = [] ∨ k < tb) := by
    unfold mn
    obtain ⟨r, hr⟩ := rank [ta, tb, k]
    have e1 := (hr ta (by simp) tb (by simp)).1
    have e2 := (hr k (by simp) ta (by simp)).1
    have e3 := (hr k (by simp) tb (by simp)).1
    by_cases h : ends tb ta = true
    · rw [if_pos h]
      rw [ends_iff] at h
      rw [e1] at h
      rw [e2, e3]
      rcases h with h | ⟨h, h2⟩
      · simp [h]
      · constructor
        · intro h3
          rcases h3 with h3 | h3
          · exact absurd h3 h
          · exact ⟨Or.inr (by omega), Or.inr h3⟩
        · exact fun h3 => h3.2
    · rw [if_neg h]
      have h' : ¬ (ta = [] ∨ (tb ≠ [] ∧ ¬ ta < tb)) := fun x => h (ends_iff.2 x)
      rw [e1] at h'
      rw [e2, e3]
      constructor
      · intro h3
        rcases h3 with h3 | h3
        · exact absurd (Or.inl h3) h'
        · refine ⟨Or.inr h3, ?_⟩
          by_cases hb : tb = []
          · exact Or.inl hb
          · refine Or.inr ?_
            by_cases hlt : r ta < r tb
            · omega
            · exact absurd (Or.inr ⟨hb, hlt⟩) h'
      · exact fun h3 => h3.1
  have hne : ¬ k < mx fa fb → (mn ta tb = [] ∨ k < mn ta tb) → (mn ta tb = [] ∨ mx fa fb < mn ta tb) := by
    generalize mx fa fb = f
    generalize mn ta tb = t
    intro h1 h2
    rcases h2 with h2 | h2
    · exact Or.inl h2
    · refine Or.inr ?_
      obtain ⟨r, hr⟩ := rank [f, t, k]
      have e1 := (hr k (by simp) f (by simp)).1
      have e2 := (hr k (by simp) t (by simp)).1
      have e3 := (hr f (by simp) t (by simp)).1
      rw [e1] at h1; rw [e2] at h2; rw [e3]; omega
  refine bool_iff ?_
  simp only [meet, Bool.and_eq_true, cont_iff, vr_iff]
  constructor
  · rintro ⟨⟨⟨a1, a2, a3⟩, a4, a5⟩, ⟨b1, b2, b3⟩, b4, b5⟩
    have hx := hmx.2 ⟨a4, b4⟩
    have hn := hmn.2 ⟨a5, b5⟩
    have hv := hne hx hn
    exact ⟨⟨⟨⟨a1, a2, a3⟩, b1, b2, b3⟩, hbm a1 b1, hbn a2 b2, hv⟩, ⟨hbm a1 b1, hbn a2 b2, hv⟩, hx, hn⟩
  · rintro ⟨⟨⟨⟨a1, a2, a3⟩, b1, b2, b3⟩, _⟩, _, hx, hn⟩
    obtain ⟨a4, b4⟩ := hmx.1 hx
    obtain ⟨a5, b5⟩ := hmn.1 hn
    exact ⟨⟨⟨a1, a2, a3⟩, a4, a5⟩, ⟨b1, b2, b3⟩, b4, b5⟩

/-! ### splits -/

theorem cuts_iff {f t k : List UInt8} : cuts f t k = true ↔ (bound f = true ∧ bound t = true ∧ (t = [] ∨ f < t)) ∧ bound k = true ∧ f < k ∧ (t = [] ∨ k < t) := by
  simp only [cuts, Bool.and_eq_true, under_iff, vr_iff, decide_eq_true_iff, and_assoc]
theorem nil_of_lt {a b : List UInt8} (h : a < b) : b ≠ [] := fun e => lt_nil a (e ▸ h)
theorem cuts_left {f t m : List UInt8} (h : cuts f t m = true) : vr f m = true := by
  rw [cuts_iff] at h
  exact vr_iff.2 ⟨h.1.1, h.2.1, Or.inr h.2.2.1⟩
theorem cuts_right {f t m : List UInt8} (h : cuts f t m = true) : vr m t = true := by
  rw [cuts_iff] at h
  exact vr_iff.2 ⟨h.2.1, h.1.2.1, h.2.2.2⟩
theorem cuts_covers_left {f t m : List UInt8} (h : cuts f t m = true) : covers f t f m = true := by
  rw [cuts_iff] at h
  obtain ⟨hv, hm, h1, h2⟩ := h
  refine covers_iff.2 fun _ => ⟨hv, lt_irr f, ?_⟩
  rcases h2 with h2 | h2
  · exact Or.inl h2
  · exact Or.inr ⟨nil_of_lt h1, fun h3 => lt_irr m (lt_tra h2 h3)⟩
theorem cuts_covers_right {f t m : List UInt8} (h : cuts f t m = true) : covers f t m t = true := by
  rw [cuts_iff] at h
  obtain ⟨hv, hm, h1, h2⟩ := h
  refine covers_iff.2 fun _ => ⟨hv, fun h3 => lt_irr m (lt_tra h3 h1), ?_⟩
  by_cases ht : t = []
  · exact Or.inl ht
  · exact Or.inr ⟨ht, lt_irr t⟩
theorem cuts_meet {f t m : List UInt8} (h : cuts f t m = true) : meet f m m t = false := by
  rw [cuts_iff] at h
  obtain ⟨hv, hm, h1, h2⟩ := h
  have hx : mx f m = m := by unfold mx; rw [if_pos h1]
  have hn : mn m t = m := by
    unfold mn
    by_cases he : ends t m = true
    · rw [ends_iff] at he
      rcases he with he | ⟨h3, h4⟩
      · exact absurd he (nil_of_lt h1)
      · rcases h2 with h2 | h2
        · exact absurd h2 h3
        · exact absurd h2 h4
    · rw [if_neg he]
  unfold meet
  rw [hx, hn]
  have : vr m m = false := by
    cases hh : vr m m with
    | false => rfl
    | true =>
      rw [vr_iff] at hh
      rcases hh.2.2 with h3 | h3
      · exact absurd h3 (nil_of_lt h1)
      · exact absurd h3 (lt_irr m)
  rw [this, Bool.and_false]
/-- (P4.7) Each string of the range is in just one of the parts. -/
theorem cuts_cont {f t m : List UInt8} (h : cuts f t m = true) (k : List UInt8) : cont f t k = (cont f m k != cont m t k) ∧ (cont f m k && cont m t k) = false := by
  have hl := cuts_left h
  have hr := cuts_right h
  have hb := h
  rw [cuts_iff] at h
  obtain ⟨hv, hm, h1, h2⟩ := h
  have hvr : vr f t = true := vr_iff.2 hv
  have e0 : cont f t k = (decide (¬ k < f) && under k t) := by unfold cont; rw [hvr, Bool.true_and]
  have e1 : cont f m k = (decide (¬ k < f) && decide (k < m)) := by
    unfold cont; rw [hl, Bool.true_and]
    have : under k m = decide (k < m) := bool_iff (by rw [under_iff, decide_eq_true_iff]; exact ⟨fun x => x.elim (fun y => absurd y (nil_of_lt h1)) id, Or.inr⟩)
    rw [this]
  have e2 : cont m t k = (decide (¬ k < m) && under k t) := by unfold cont; rw [hr, Bool.true_and]
  rw [e0, e1, e2]
  by_cases a : k < m
  · have hu : under k t = true := under_iff.2 (h2.elim Or.inl fun x => Or.inr (lt_tra a x))
    rw [hu]
    simp [a]
  · have hf : ¬ k < f := fun x => a (lt_tra x h1)
    simp [a, hf]
theorem cuts_at {f t m : List UInt8} (h : cuts f t m = true) : cont m t m = true := by
  have hr := cuts_right h
  rw [cuts_iff] at h
  rw [cont_iff]
  exact ⟨vr_iff.1 hr, lt_irr m, h.2.2.2⟩
/-- Split's own test: the range contains k, k is not its lower end, and k is a bound. -/
theorem cuts_code (f t k : List UInt8) : cuts f t k = (cont f t k && !decide (k = f) && bound k) := by
  refine bool_iff ?_
  rw [cuts_iff]
  simp only [Bool.and_eq_true, cont_iff, Bool.not_eq_true', decide_eq_false_iff_not]
  constructor
  · rintro ⟨h1, h2, h3, h4⟩
    exact ⟨⟨⟨h1, fun x => lt_irr k (lt_tra x h3), h4⟩, fun e => lt_irr k (e ▸ h3)⟩, h2⟩
  · rintro ⟨⟨⟨h1, h2, h3⟩, h4⟩, h5⟩
    exact ⟨h1, h5, Decidable.byContradiction fun x => h4 (lt_tri h2 x), h3⟩

/-! ### prefixes -/

/-- p with its last byte increased by one -/
def inc (p : List UInt8) : List UInt8 := p.take (p.length - 1) ++ [(p.getD (p.length - 1) 0) + 1]
theorem snoc_of (p : List UInt8) (h : p ≠ []) : ∃ a c, p = a ++ [c] := ⟨p.dropLast, p.getLast h, (List.dropLast_concat_getLast h).symm⟩
theorem inc_snoc (a : List UInt8) (c : UInt8) : inc (a ++ [c]) = a ++ [c + 1] := by
  unfold inc
  have h1 : (a ++ [c]).length - 1 = a.length := by simp
  rw [h1]
  simp [List.getD_eq_getElem?_getD]
theorem byte_lt_iff (x c : UInt8) : x < c ↔ x.toNat < c.toNat := UInt8.lt_iff_toNat_lt
theorem byte_eq_iff (x c : UInt8) : x = c ↔ x.toNat = c.toNat := UInt8.toNat_inj.symm
theorem succ_nat {c : UInt8} (h : c.toNat < 255) : (c + 1).toNat = c.toNat + 1 := by
  rw [UInt8.toNat_add]
  show (c.toNat + 1) % 256 = _
  omega
theorem prefix_range {c : UInt8} (hc : c.toNat < 255) : ∀ (a k : List UInt8), (¬ k < a ++ [c] ∧ k < a ++ [c + 1]) ↔ a ++ [c] <+: k
  | [], [] => by simp
  | [], x :: k => by
    simp only [List.nil_append, List.cons_lt_cons_iff, lt_nil, and_false, or_false, List.cons_prefix_cons, List.nil_prefix, and_true]
    rw [byte_lt_iff, byte_lt_iff, byte_eq_iff, succ_nat hc]
    omega
  | y :: a, [] => by simp
  | y :: a, x :: k => by
    have ih := prefix_range hc a k
    simp only [List.cons_append, List.cons_lt_cons_iff, List.cons_prefix_cons]
    rw [← ih, byte_lt_iff, byte_eq_iff, byte_eq_iff]
    constructor
    · rintro ⟨h1, h2⟩
      rcases h2 with h2 | ⟨h2, h3⟩
      · exact absurd (Or.inl h2) h1
      · exact ⟨h2.symm, fun h4 => h1 (Or.inr ⟨h2, h4⟩), h3⟩
    · rintro ⟨h1, h2, h3⟩
      refine ⟨?_, Or.inr ⟨h1.symm, h3⟩⟩
      rintro (h4 | ⟨_, h4⟩)
      · omega
      · exact h2 h4
theorem key_byte {c : UInt8} (h : okKey c = true) : 45 ≤ c.toNat ∧ c.toNat ≤ 122 := by
  unfold okKey at h
  rw [decide_eq_true_iff] at h
  omega
theorem key_bound {c : UInt8} (h : okKey c = true) : okBound c = true := by
  have := key_byte h
  unfold okBound
  rw [decide_eq_true_iff]
  omega
theorem valid_bound {p : List UInt8} (h : valid p = true) : bound p = true := by
  unfold valid at h
  unfold bound
  rw [Bool.and_eq_true, decide_eq_true_iff, List.all_eq_true] at *
  exact ⟨h.1.2, fun x hx => key_bound (h.2 x hx)⟩
theorem valid_ne {p : List UInt8} (h : valid p = true) : p ≠ [] := by
  rintro rfl
  simp [valid] at h
/-- The range of a key's prefix is valid. -/
theorem prefix_vr {p : List UInt8} (h : valid p = true) : vr p (inc p) = true := by
  obtain ⟨a, c, rfl⟩ := snoc_of p (valid_ne h)
  rw [inc_snoc]
  have hb := valid_bound h
  unfold valid at h
  rw [Bool.and_eq_true, decide_eq_true_iff, List.all_eq_true] at h
  have hc := key_byte (h.2 c (by simp))
  have hs := succ_nat (c := c) (by omega)
  refine vr_iff.2 ⟨hb, ?_, Or.inr ?_⟩
  · unfold bound at *
    rw [Bool.and_eq_true, decide_eq_true_iff, List.all_eq_true] at *
    refine ⟨by simpa using hb.1, fun x hx => ?_⟩
    rcases List.mem_append.1 hx with hx | hx
    · exact hb.2 x (List.mem_append_left _ hx)
    · have : x = c + 1 := by simpa using hx
      subst this
      unfold okBound
      rw [decide_eq_true_iff]
      omega
  · exact ((prefix_range (by omega) a (a ++ [c])).2 (List.prefix_refl _)).2
/-- (P4.5) It contains exactly the strings that begin with the prefix. -/
theorem prefix_cont {p : List UInt8} (h : valid p = true) (k : List UInt8) : cont p (inc p) k = decide (p <+: k) := by
  have hv := prefix_vr h
  obtain ⟨a, c, rfl⟩ := snoc_of p (valid_ne h)
  have hc : c.toNat < 255 := by
    unfold valid at h
    rw [Bool.and_eq_true, decide_eq_true_iff, List.all_eq_true] at h
    have hc := key_byte (h.2 c (by simp))
    omega
  refine bool_iff ?_
  rw [cont_iff, decide_eq_true_iff, ← prefix_range hc a k]
  rw [inc_snoc] at hv ⊢
  constructor
  · rintro ⟨_, h1, h2⟩
    exact ⟨h1, h2.resolve_left (by simp)⟩
  · rintro ⟨h1, h2⟩
    exact ⟨vr_iff.1 hv, h1, Or.inr h2⟩
theorem none_cont (k : List UInt8) : cont [] [] k = true := by
  rw [cont_iff]
  exact ⟨⟨rfl, rfl, Or.inl rfl⟩, lt_nil k, Or.inl rfl⟩
end Go.Proofs.Ytbakojnapikfeaa
