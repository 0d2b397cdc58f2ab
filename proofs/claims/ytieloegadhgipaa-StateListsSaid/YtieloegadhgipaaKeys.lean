/-
  Plain mathematics of layer 4, without the program: keys, bounds and ranges over lists of bytes; what the ranges of intersections, splits and prefixes contain.
  What the closures over bytes, Valid and isBound return, of the program and of the reference: contracts, one a function.
  What consists returns for a closure that leaves the world as it is: contracts, one a closure.
  What Valid and isBound return, of the program and of the reference: contracts, one a function.
  What ValidRange, Contains, Covers and endsWithin return, of the program and of the reference: contracts, one a function.
-/
import Derived.Test.YtieloegadhgipaaShelf
import Derived.WalkKit
import Derived.LoopTactic
import Derived.Lib.Walk
import Derived.Lib.Strings
import Derived.Lib.IndexBytes
import Derived.Lib.Hide
import Derived.Laws.BitsAllLaws
import Derived.WalkLawsBesides
import Derived.Laws.EntriesVeiled
namespace Go.Proofs.Ytieloegadhgipaa.K

/-! ### the order of strings, by ranks -/

theorem count_le {α : Type} {p q : α → Bool} : ∀ (l : List α), (∀ x ∈ l, p x = true → q x = true) → l.countP p ≤ l.countP q
  | [], _ => Nat.le_refl _
  | a :: l, h => by
    have ih := count_le l fun x hx => h x (List.mem_cons_of_mem a hx)
    have ha := h a List.mem_cons_self
    rw [List.countP_cons, List.countP_cons]
    by_cases hp : p a = true
    · rw [if_pos hp, if_pos (ha hp)]; omega
    · rw [if_neg hp]; omega
theorem count_lt {α : Type} {p q : α → Bool} {y : α} (hp : ¬ p y = true) (hq : q y = true) : ∀ (l : List α), y ∈ l → (∀ x ∈ l, p x = true → q x = true) → l.countP p < l.countP q
  | [], hy, _ => by cases hy
  | a :: l, hy, h => by
    rw [List.countP_cons, List.countP_cons]
    have hle := count_le l fun x hx => h x (List.mem_cons_of_mem a hx)
    rcases List.mem_cons.1 hy with rfl | hy
    · rw [if_neg hp, if_pos hq]; omega
    · have ih := count_lt hp hq l hy fun x hx => h x (List.mem_cons_of_mem a hx)
      have ha := h a List.mem_cons_self
      by_cases hpa : p a = true
      · rw [if_pos hpa, if_pos (ha hpa)]; omega
      · rw [if_neg hpa]; omega
theorem lt_irr (a : List UInt8) : ¬ a < a := List.lt_irrefl a
theorem lt_tri {a b : List UInt8} (h : ¬ a < b) (h2 : ¬ b < a) : a = b := List.le_antisymm h2 h
theorem lt_tra {a b c : List UInt8} (h : a < b) (h2 : b < c) : a < c := List.lt_trans h h2
theorem lt_nil (a : List UInt8) : ¬ a < [] := List.not_lt_nil a
/-- Of any few strings the order is that of numbers. -/
theorem rank (S : List (List UInt8)) : ∃ r : List UInt8 → Nat, ∀ a ∈ S, ∀ b ∈ S, (a < b ↔ r a < r b) ∧ (a = b ↔ r a = r b) := by
  let r : List UInt8 → Nat := fun a => S.countP fun x => decide (x < a)
  have up : ∀ a ∈ S, ∀ b ∈ S, a < b → r a < r b := by
    intro a ha b _ h
    refine count_lt (y := a) (by simp [lt_irr a]) (by simpa using h) S ha ?_
    intro x _ hx
    simp only [decide_eq_true_eq] at *
    exact lt_tra hx h
  refine ⟨r, fun a ha b hb => ?_⟩
  have h1 := up a ha b hb
  have h2 := up b hb a ha
  by_cases e : a = b
  · subst e; exact ⟨⟨fun h => absurd h (lt_irr a), fun h => absurd h (Nat.lt_irrefl _)⟩, ⟨fun _ => rfl, fun _ => rfl⟩⟩
  · by_cases h : a < b
    · have := h1 h
      exact ⟨⟨fun _ => this, fun _ => h⟩, ⟨fun h => absurd h e, fun h => by omega⟩⟩
    · have h' : b < a := Decidable.byContradiction fun h' => e (lt_tri h h')
      have := h2 h'
      exact ⟨⟨fun hh => absurd hh h, fun hh => by omega⟩, ⟨fun h => absurd h e, fun h => by omega⟩⟩

/-! ### keys, bounds, ranges -/

def okKey (c : UInt8) : Bool := decide (97 ≤ c.toNat ∧ c.toNat ≤ 122 ∨ 48 ≤ c.toNat ∧ c.toNat ≤ 57 ∨ c.toNat = 47 ∨ c.toNat = 46 ∨ c.toNat = 95 ∨ c.toNat = 45)
def okBound (c : UInt8) : Bool := decide (33 ≤ c.toNat ∧ c.toNat ≤ 126)
def valid (s : List UInt8) : Bool := decide (1 ≤ s.length ∧ s.length ≤ 24) && s.all okKey
def bound (s : List UInt8) : Bool := decide (s.length ≤ 24) && s.all okBound
/-- k is at most the upper end t, of which empty is the greatest. -/
def under (k t : List UInt8) : Bool := decide (t = [] ∨ k < t)
/-- the range from f to t is valid -/
def vr (f t : List UInt8) : Bool := bound f && bound t && under f t
/-- it contains k -/
def cont (f t k : List UInt8) : Bool := vr f t && decide (¬ k < f) && under k t
/-- the upper end t is at most the upper end u -/
def ends (t u : List UInt8) : Bool := decide (u = [] ∨ (t ≠ [] ∧ ¬ u < t))
def covers (fa ta fb tb : List UInt8) : Bool := !vr fb tb || (vr fa ta && decide (¬ fb < fa) && ends tb ta)
def mx (a b : List UInt8) : List UInt8 := if a < b then b else a
def mn (t u : List UInt8) : List UInt8 := if ends u t then u else t
/-- the two ranges meet -/
def meet (fa ta fb tb : List UInt8) : Bool := vr fa ta && vr fb tb && vr (mx fa fb) (mn ta tb)
/-- the range from f to t is split at k -/
def cuts (f t k : List UInt8) : Bool := vr f t && bound k && decide (f < k) && under k t

theorem under_iff {k t : List UInt8} : under k t = true ↔ (t = [] ∨ k < t) := decide_eq_true_iff
theorem ends_iff {t u : List UInt8} : ends t u = true ↔ (u = [] ∨ (t ≠ [] ∧ ¬ u < t)) := decide_eq_true_iff
theorem vr_iff {f t : List UInt8} : vr f t = true ↔ bound f = true ∧ bound t = true ∧ (t = [] ∨ f < t) := by
  simp only [vr, Bool.and_eq_true, under_iff, and_assoc]
theorem cont_iff {f t k : List UInt8} : cont f t k = true ↔ (bound f = true ∧ bound t = true ∧ (t = [] ∨ f < t)) ∧ ¬ k < f ∧ (t = [] ∨ k < t) := by
  simp only [cont, Bool.and_eq_true, under_iff, vr_iff, decide_eq_true_iff, and_assoc]
theorem covers_iff {fa ta fb tb : List UInt8} : covers fa ta fb tb = true ↔ ((bound fb = true ∧ bound tb = true ∧ (tb = [] ∨ fb < tb)) → (bound fa = true ∧ bound ta = true ∧ (ta = [] ∨ fa < ta)) ∧ ¬ fb < fa ∧ (ta = [] ∨ (tb ≠ [] ∧ ¬ ta < tb))) := by
  rw [← vr_iff, ← vr_iff]
  simp only [covers, Bool.or_eq_true, Bool.and_eq_true, ends_iff, decide_eq_true_iff, Bool.not_eq_true']
  cases vr fb tb <;> simp [and_assoc]
theorem bool_iff {x y : Bool} (h : x = true ↔ y = true) : x = y := by cases x <;> cases y <;> simp_all

/-- (P4.7) A range that covers another one contains what it contains. -/
theorem covers_cont {fa ta fb tb k : List UInt8} (h : covers fa ta fb tb = true) (hk : cont fb tb k = true) : cont fa ta k = true := by
  rw [covers_iff] at h
  rw [cont_iff] at hk ⊢
  obtain ⟨hv, h1, h2⟩ := hk
  obtain ⟨ha, h3, h4⟩ := h hv
  refine ⟨ha, ?_⟩
  clear h ha hv
  obtain ⟨r, hr⟩ := rank [fa, ta, fb, tb, k, []]
  have e1 := (hr fb (by simp) fa (by simp)).1
  have e2 := (hr ta (by simp) tb (by simp)).1
  have e3 := (hr k (by simp) fb (by simp)).1
  have e4 := (hr k (by simp) tb (by simp)).1
  have e5 := (hr k (by simp) fa (by simp)).1
  have e6 := (hr k (by simp) ta (by simp)).1
  rw [e1] at h3
  rw [e2] at h4
  rw [e3] at h1
  rw [e4] at h2
  rw [e5, e6]
  refine ⟨by omega, ?_⟩
  rcases h4 with h4 | ⟨h4, h5⟩
  · exact Or.inl h4
  · rcases h2 with h2 | h2
    · exact absurd h2 h4
    · exact Or.inr (by omega)

/-- What is contained in both is contained in the range that Intersect returns, and nothing if the ranges do not meet. -/
theorem both_cont (fa ta fb tb k : List UInt8) : (cont fa ta k && cont fb tb k) = (meet fa ta fb tb && cont (mx fa fb) (mn ta tb) k) := by
  have hbm : bound fa = true → bound fb = true → bound (mx fa fb) = true := by intro h1 h2; unfold mx; split <;> assumption
  have hbn : bound ta = true → bound tb = true → bound (mn ta tb) = true := by intro h1 h2; unfold mn; split <;> assumption
  have hmx : ¬ k < mx fa fb ↔ ¬ k < fa ∧ ¬ k < fb := by
    unfold mx
    obtain ⟨r, hr⟩ := rank [fa, fb, k]
    have e1 := (hr fa (by simp) fb (by simp)).1
    have e2 := (hr k (by simp) fa (by simp)).1
    have e3 := (hr k (by simp) fb (by simp)).1
    split
    · rename_i h; rw [e1] at h; rw [e2, e3]; omega
    · rename_i h; rw [e1] at h; rw [e2, e3]; omega
  have hmn : (mn ta tb = [] ∨ k < mn ta tb) ↔ (ta = [] ∨ k < ta) ∧ (tb = [] ∨ k < tb) := by
    unfold mn
    obtain ⟨r, hr⟩ := rank [ta, tb, k]
    have e1 := (hr ta (by simp) tb (by simp)).1
    have e2 := (hr k (by simp) ta (by simp)).1
    have e3 := (hr k (by simp) tb (by simp)).1
    by_cases h : ends tb ta = true
    · rw [if_pos h]
      rw [ends_iff] at h
      rw [e1] at h
      rw [e2, e3]
      rcases h with h | ⟨h, h2⟩
      · simp [h]
      · constructor
        · intro h3
          rcases h3 with h3 | h3
          · exact absurd h3 h
          · exact ⟨Or.inr (by omega), Or.inr h3⟩
        · exact fun h3 => h3.2
    · rw [if_neg h]
      have h' : ¬ (ta = [] ∨ (tb ≠ [] ∧ ¬ ta < tb)) := fun x => h (ends_iff.2 x)
      rw [e1] at h'
      rw [e2, e3]
      constructor
      · intro h3
        rcases h3 with h3 | h3
        · exact absurd (Or.inl h3) h'
        · refine ⟨Or.inr h3, ?_⟩
          by_cases hb : tb = []
          · exact Or.inl hb
          · refine Or.inr ?_
            by_cases hlt : r ta < r tb
            · omega
            · exact absurd (Or.inr ⟨hb, hlt⟩) h'
      · exact fun h3 => h3.1
  have hne : ¬ k < mx fa fb → (mn ta tb = [] ∨ k < mn ta tb) → (mn ta tb = [] ∨ mx fa fb < mn ta tb) := by
    generalize mx fa fb = f
    generalize mn ta tb = t
    intro h1 h2
    rcases h2 with h2 | h2
    · exact Or.inl h2
    · refine Or.inr ?_
      obtain ⟨r, hr⟩ := rank [f, t, k]
      have e1 := (hr k (by simp) f (by simp)).1
      have e2 := (hr k (by simp) t (by simp)).1
      have e3 := (hr f (by simp) t (by simp)).1
      rw [e1] at h1; rw [e2] at h2; rw [e3]; omega
  refine bool_iff ?_
  simp only [meet, Bool.and_eq_true, cont_iff, vr_iff]
  constructor
  · rintro ⟨⟨⟨a1, a2, a3⟩, a4, a5⟩, ⟨b1, b2, b3⟩, b4, b5⟩
    have hx := hmx.2 ⟨a4, b4⟩
    have hn := hmn.2 ⟨a5, b5⟩
    have hv := hne hx hn
    exact ⟨⟨⟨⟨a1, a2, a3⟩, b1, b2, b3⟩, hbm a1 b1, hbn a2 b2, hv⟩, ⟨hbm a1 b1, hbn a2 b2, hv⟩, hx, hn⟩
  · rintro ⟨⟨⟨⟨a1, a2, a3⟩, b1, b2, b3⟩, _⟩, _, hx, hn⟩
    obtain ⟨a4, b4⟩ := hmx.1 hx
    obtain ⟨a5, b5⟩ := hmn.1 hn
    exact ⟨⟨⟨a1, a2, a3⟩, a4, a5⟩, ⟨b1, b2, b3⟩, b4, b5⟩

/-! ### splits -/

theorem cuts_iff {f t k : List UInt8} : cuts f t k = true ↔ (bound f = true ∧ bound t = true ∧ (t = [] ∨ f < t)) ∧ bound k = true ∧ f < k ∧ (t = [] ∨ k < t) := by
  simp only [cuts, Bool.and_eq_true, under_iff, vr_iff, decide_eq_true_iff, and_assoc]
theorem nil_of_lt {a b : List UInt8} (h : a < b) : b ≠ [] := fun e => lt_nil a (e ▸ h)
theorem cuts_left {f t m : List UInt8} (h : cuts f t m = true) : vr f m = true := by
  rw [cuts_iff] at h
  exact vr_iff.2 ⟨h.1.1, h.2.1, Or.inr h.2.2.1⟩
theorem cuts_right {f t m : List UInt8} (h : cuts f t m = true) : vr m t = true := by
  rw [cuts_iff] at h
  exact vr_iff.2 ⟨h.2.1, h.1.2.1, h.2.2.2⟩
theorem cuts_covers_left {f t m : List UInt8} (h : cuts f t m = true) : covers f t f m = true := by
  rw [cuts_iff] at h
  obtain ⟨hv, hm, h1, h2⟩ := h
  refine covers_iff.2 fun _ => ⟨hv, lt_irr f, ?_⟩
  rcases h2 with h2 | h2
  · exact Or.inl h2
  · exact Or.inr ⟨nil_of_lt h1, fun h3 => lt_irr m (lt_tra h2 h3)⟩
theorem cuts_covers_right {f t m : List UInt8} (h : cuts f t m = true) : covers f t m t = true := by
  rw [cuts_iff] at h
  obtain ⟨hv, hm, h1, h2⟩ := h
  refine covers_iff.2 fun _ => ⟨hv, fun h3 => lt_irr m (lt_tra h3 h1), ?_⟩
  by_cases ht : t = []
  · exact Or.inl ht
  · exact Or.inr ⟨ht, lt_irr t⟩
theorem cuts_meet {f t m : List UInt8} (h : cuts f t m = true) : meet f m m t = false := by
  rw [cuts_iff] at h
  obtain ⟨hv, hm, h1, h2⟩ := h
  have hx : mx f m = m := by unfold mx; rw [if_pos h1]
  have hn : mn m t = m := by
    unfold mn
    by_cases he : ends t m = true
    · rw [ends_iff] at he
      rcases he with he | ⟨h3, h4⟩
      · exact absurd he (nil_of_lt h1)
      · rcases h2 with h2 | h2
        · exact absurd h2 h3
        · exact absurd h2 h4
    · rw [if_neg he]
  unfold meet
  rw [hx, hn]
  have : vr m m = false := by
    cases hh : vr m m with
    | false => rfl
    | true =>
      rw [vr_iff] at hh
      rcases hh.2.2 with h3 | h3
      · exact absurd h3 (nil_of_lt h1)
      · exact absurd h3 (lt_irr m)
  rw [this, Bool.and_false]
/-- (P4.7) Each string of the range is in just one of the parts. -/
theorem cuts_cont {f t m : List UInt8} (h : cuts f t m = true) (k : List UInt8) : cont f t k = (cont f m k != cont m t k) ∧ (cont f m k && cont m t k) = false := by
  have hl := cuts_left h
  have hr := cuts_right h
  have hb := h
  rw [cuts_iff] at h
  obtain ⟨hv, hm, h1, h2⟩ := h
  have hvr : vr f t = true := vr_iff.2 hv
  have e0 : cont f t k = (decide (¬ k < f) && under k t) := by unfold cont; rw [hvr, Bool.true_and]
  have e1 : cont f m k = (decide (¬ k < f) && decide (k < m)) := by
    unfold cont; rw [hl, Bool.true_and]
    have : under k m = decide (k < m) := bool_iff (by rw [under_iff, decide_eq_true_iff]; exact ⟨fun x => x.elim (fun y => absurd y (nil_of_lt h1)) id, Or.inr⟩)
    rw [this]
  have e2 : cont m t k = (decide (¬ k < m) && under k t) := by unfold cont; rw [hr, Bool.true_and]
  rw [e0, e1, e2]
  by_cases a : k < m
  · have hu : under k t = true := under_iff.2 (h2.elim Or.inl fun x => Or.inr (lt_tra a x))
    rw [hu]
    simp [a]
  · have hf : ¬ k < f := fun x => a (lt_tra x h1)
    simp [a, hf]
theorem cuts_at {f t m : List UInt8} (h : cuts f t m = true) : cont m t m = true := by
  have hr := cuts_right h
  rw [cuts_iff] at h
  rw [cont_iff]
  exact ⟨vr_iff.1 hr, lt_irr m, h.2.2.2⟩
/-- Split's own test: the range contains k, k is not its lower end, and k is a bound. -/
theorem cuts_code (f t k : List UInt8) : cuts f t k = (cont f t k && !decide (k = f) && bound k) := by
  refine bool_iff ?_
  rw [cuts_iff]
  simp only [Bool.and_eq_true, cont_iff, Bool.not_eq_true', decide_eq_false_iff_not]
  constructor
  · rintro ⟨h1, h2, h3, h4⟩
    exact ⟨⟨⟨h1, fun x => lt_irr k (lt_tra x h3), h4⟩, fun e => lt_irr k (e ▸ h3)⟩, h2⟩
  · rintro ⟨⟨⟨h1, h2, h3⟩, h4⟩, h5⟩
    exact ⟨h1, h5, Decidable.byContradiction fun x => h4 (lt_tri h2 x), h3⟩

/-! ### prefixes -/

/-- p with its last byte increased by one -/
def inc (p : List UInt8) : List UInt8 := p.take (p.length - 1) ++ [(p.getD (p.length - 1) 0) + 1]
theorem snoc_of (p : List UInt8) (h : p ≠ []) : ∃ a c, p = a ++ [c] := ⟨p.dropLast, p.getLast h, (List.dropLast_concat_getLast h).symm⟩
theorem inc_snoc (a : List UInt8) (c : UInt8) : inc (a ++ [c]) = a ++ [c + 1] := by
  unfold inc
  have h1 : (a ++ [c]).length - 1 = a.length := by simp
  rw [h1]
  simp [List.getD_eq_getElem?_getD]
theorem byte_lt_iff (x c : UInt8) : x < c ↔ x.toNat < c.toNat := UInt8.lt_iff_toNat_lt
theorem byte_eq_iff (x c : UInt8) : x = c ↔ x.toNat = c.toNat := UInt8.toNat_inj.symm
theorem succ_nat {c : UInt8} (h : c.toNat < 255) : (c + 1).toNat = c.toNat + 1 := by
  rw [UInt8.toNat_add]
  show (c.toNat + 1) % 256 = _
  omega
theorem prefix_range {c : UInt8} (hc : c.toNat < 255) : ∀ (a k : List UInt8), (¬ k < a ++ [c] ∧ k < a ++ [c + 1]) ↔ a ++ [c] <+: k
  | [], [] => by simp
  | [], x :: k => by
    simp only [List.nil_append, List.cons_lt_cons_iff, lt_nil, and_false, or_false, List.cons_prefix_cons, List.nil_prefix, and_true]
    rw [byte_lt_iff, byte_lt_iff, byte_eq_iff, succ_nat hc]
    omega
  | y :: a, [] => by simp
  | y :: a, x :: k => by
    have ih := prefix_range hc a k
    simp only [List.cons_append, List.cons_lt_cons_iff, List.cons_prefix_cons]
    rw [← ih, byte_lt_iff, byte_eq_iff, byte_eq_iff]
    constructor
    · rintro ⟨h1, h2⟩
      rcases h2 with h2 | ⟨h2, h3⟩
      · exact absurd (Or.inl h2) h1
      · exact ⟨h2.symm, fun h4 => h1 (Or.inr ⟨h2, h4⟩), h3⟩
    · rintro ⟨h1, h2, h3⟩
      refine ⟨?_, Or.inr ⟨h1.symm, h3⟩⟩
      rintro (h4 | ⟨_, h4⟩)
      · omega
      · exact h2 h4
theorem key_byte {c : UInt8} (h : okKey c = true) : 45 ≤ c.toNat ∧ c.toNat ≤ 122 := by
  unfold okKey at h
  rw [decide_eq_true_iff] at h
  omega
theorem key_bound {c : UInt8} (h : okKey c = true) : okBound c = true := by
  have := key_byte h
  unfold okBound
  rw [decide_eq_true_iff]
  omega
theorem valid_bound {p : List UInt8} (h : valid p = true) : bound p = true := by
  unfold valid at h
  unfold bound
  rw [Bool.and_eq_true, decide_eq_true_iff, List.all_eq_true] at *
  exact ⟨h.1.2, fun x hx => key_bound (h.2 x hx)⟩
theorem valid_ne {p : List UInt8} (h : valid p = true) : p ≠ [] := by
  rintro rfl
  simp [valid] at h
/-- The range of a key's prefix is valid. -/
theorem prefix_vr {p : List UInt8} (h : valid p = true) : vr p (inc p) = true := by
  obtain ⟨a, c, rfl⟩ := snoc_of p (valid_ne h)
  rw [inc_snoc]
  have hb := valid_bound h
  unfold valid at h
  rw [Bool.and_eq_true, decide_eq_true_iff, List.all_eq_true] at h
  have hc := key_byte (h.2 c (by simp))
  have hs := succ_nat (c := c) (by omega)
  refine vr_iff.2 ⟨hb, ?_, Or.inr ?_⟩
  · unfold bound at *
    rw [Bool.and_eq_true, decide_eq_true_iff, List.all_eq_true] at *
    refine ⟨by simpa using hb.1, fun x hx => ?_⟩
    rcases List.mem_append.1 hx with hx | hx
    · exact hb.2 x (List.mem_append_left _ hx)
    · have : x = c + 1 := by simpa using hx
      subst this
      unfold okBound
      rw [decide_eq_true_iff]
      omega
  · exact ((prefix_range (by omega) a (a ++ [c])).2 (List.prefix_refl _)).2
/-- (P4.5) It contains exactly the strings that begin with the prefix. -/
theorem prefix_cont {p : List UInt8} (h : valid p = true) (k : List UInt8) : cont p (inc p) k = decide (p <+: k) := by
  have hv := prefix_vr h
  obtain ⟨a, c, rfl⟩ := snoc_of p (valid_ne h)
  have hc : c.toNat < 255 := by
    unfold valid at h
    rw [Bool.and_eq_true, decide_eq_true_iff, List.all_eq_true] at h
    have hc := key_byte (h.2 c (by simp))
    omega
  refine bool_iff ?_
  rw [cont_iff, decide_eq_true_iff, ← prefix_range hc a k]
  rw [inc_snoc] at hv ⊢
  constructor
  · rintro ⟨_, h1, h2⟩
    exact ⟨h1, h2.resolve_left (by simp)⟩
  · rintro ⟨h1, h2⟩
    exact ⟨vr_iff.1 hv, h1, Or.inr h2⟩
theorem none_cont (k : List UInt8) : cont [] [] k = true := by
  rw [cont_iff]
  exact ⟨⟨rfl, rfl, Or.inl rfl⟩, lt_nil k, Or.inl rfl⟩
end Go.Proofs.Ytieloegadhgipaa.K
namespace Go.Proofs.Ytieloegadhgipaa.K
open Go.RowKit

theorem ret_bool {a b : Bool} (h : a = b) : Ending.returned (.bool a) = Ending.returned (.bool b) := by rw [h]
theorem size_len (s : ByteArray) : s.size = s.data.toList.length := by simp
theorem take_snoc (s : ByteArray) (k : Nat) (h : k < s.size) : s.data.toList.take (k + 1) = s.data.toList.take k ++ [s[k]] := by
  rw [List.take_succ_eq_append_getElem (by simpa using h)]; rfl
theorem take_all (s : ByteArray) : s.data.toList.take s.size = s.data.toList := List.take_of_length_le (by simp)
theorem byte_lt (c : UInt8) : c.toNat < 256 := c.toNat_lt
theorem below_2 {w w1 w2 : World} (h : Below w.heap.size w w1) (h2 : Below w1.heap.size w1 w2) : Below w.heap.size w w2 := h.trans (h2.mono h.size)

/-! ### closures -/

/-- a closure that accepts the bytes from a to b, of which w holds the ends -/
structure Span (w : World) (p q : Addr) (a b : Nat) : Prop where
  lo : w.cell? p = some (.int .u8 a)
  hi : w.cell? q = some (.int .u8 b)

theorem between_any (a b : Nat) (w : World) :
    Calls Try.prog 81 #[.int .u8 a, .int .u8 b] w fun e w' => e = .returned (.func (Fn.func 93) #[] #[.pointer (some ⟨w.heap.size, 0, none⟩), .pointer (some ⟨w.heap.size + 1, 0, none⟩)]) ∧ w' = (w.alloc (.cells #[.int .u8 a] 5)).alloc (.cells #[.int .u8 b] 5) := by
  have hmf : ∀ (fn : Fn) (first cap : Array Value) (w : World), (Instr.makeFunc fn first cap).run Try.prog w = .ok (.func fn first cap) w := fun _ _ _ _ => rfl
  go_enter Try.func81, Try.ntmps81
  go_wp2
  go_ret
  exact ⟨rfl, rfl⟩

/-- a byte from a to b -/
def spanOk (a b : Nat) (c : UInt8) : Bool := decide (a ≤ c.toNat ∧ c.toNat ≤ b)
theorem span_any {w : World} {p q : Addr} {a b : Nat} (S : Span w p q a b) (c : UInt8) :
    Calls Try.prog 93 #[.int .u8 (c.toNat : Int), .pointer (some p), .pointer (some q)] w fun e w' => e = .returned (.bool (spanOk a b c)) ∧ w' = w := by
  obtain ⟨h1, h2⟩ := S
  go_enter Try.func93, Try.ntmps93
  go_wp2
  all_goals (go_ret; exact ⟨ret_bool (by simp [spanOk, *]), rfl⟩)

/-- the closure that Valid makes -/
structure Keys (w : World) (p q a b c d : Addr) : Prop where
  one : w.cell? p = some (.func (Fn.func 93) #[] #[.pointer (some a), .pointer (some b)])
  two : w.cell? q = some (.func (Fn.func 93) #[] #[.pointer (some c), .pointer (some d)])
  letters : Span w a b 97 122
  digits : Span w c d 48 57
theorem mark_all : ∀ n : Fin 256, decide (0 ≤ Lib.indexByte [47, 46, 95, 45] n.val.toUInt8) = decide (n.val = 47 ∨ n.val = 46 ∨ n.val = 95 ∨ n.val = 45) := by decide +kernel
theorem mark_any (c : UInt8) : decide (0 ≤ Lib.indexByte [47, 46, 95, 45] c) = decide (c.toNat = 47 ∨ c.toNat = 46 ∨ c.toNat = 95 ∨ c.toNat = 45) := by
  have h := mark_all ⟨c.toNat, byte_lt c⟩
  have e : c.toNat.toUInt8 = c := by simp
  simp only [e] at h
  exact h
theorem index_mark (c : UInt8) (w : World) :
    Calls Try.prog 84 #[.string ⟨#[47, 46, 95, 45]⟩, .int .u8 (c.toNat : Int)] w fun e w' => e = .returned (.int .i64 (Lib.indexByte [47, 46, 95, 45] c)) ∧ w' = w := by
  refine (Try.strings_IndexByte _ _ w).mono ?_
  rintro e w' ⟨rfl, rfl⟩
  refine ⟨?_, rfl⟩
  rw [Int.toNat_natCast, show c.toNat.toUInt8 = c from by simp]
theorem okKey_parts (c : UInt8) : okKey c = (spanOk 97 122 c || (spanOk 48 57 c || decide (c.toNat = 47 ∨ c.toNat = 46 ∨ c.toNat = 95 ∨ c.toNat = 45))) := by
  unfold okKey spanOk
  simp only [Bool.decide_or]
set_option maxRecDepth 100000 in
theorem keys_any {w : World} {p q a b c d : Addr} (K : Keys w p q a b c d) (x : UInt8) :
    Calls Try.prog 83 #[.int .u8 (x.toNat : Int), .pointer (some p), .pointer (some q)] w fun e w' => e = .returned (.bool (okKey x)) ∧ w' = w := by
  obtain ⟨h1, h2, h3, h4⟩ := K
  have g1 := span_any h3 x
  have g2 := span_any h4 x
  have g3 := index_mark x
  have HE := Lib.hid (okKey_parts x)
  have HM := Lib.hid (mark_any x)
  generalize spanOk 97 122 x = A at g1 HE
  generalize spanOk 48 57 x = B at g2 HE
  generalize decide (x.toNat = 47 ∨ x.toNat = 46 ∨ x.toNat = 95 ∨ x.toNat = 45) = C at HE HM
  generalize Lib.indexByte [47, 46, 95, 45] x = I at g3 HM
  have G1 := Lib.hid g1
  have G2 := Lib.hid g2
  have G3 := Lib.hid g3
  clear g1 g2 g3 h3 h4
  cases A
  · cases B
    · go_enter Try.func83, Try.ntmps83
      go_wp2_with fail
      refine G1.out.mono ?_; rintro e w' ⟨rfl, rfl⟩
      go_wp2_with fail
      refine G2.out.mono ?_; rintro e w' ⟨rfl, rfl⟩
      go_wp2_with (go_at_call 84; refine (G3.out _).mono ?_; rintro e w' ⟨rfl, rfl⟩)
      go_ret
      exact ⟨ret_bool (by rw [HE.out]; simpa using HM.out), rfl⟩
    · go_enter Try.func83, Try.ntmps83
      go_wp2_with fail
      refine G1.out.mono ?_; rintro e w' ⟨rfl, rfl⟩
      go_wp2_with fail
      refine G2.out.mono ?_; rintro e w' ⟨rfl, rfl⟩
      go_wp2_with fail
      go_ret
      exact ⟨ret_bool (by rw [HE.out]; rfl), rfl⟩
  · go_enter Try.func83, Try.ntmps83
    go_wp2_with fail
    refine G1.out.mono ?_; rintro e w' ⟨rfl, rfl⟩
    go_wp2_with fail
    go_ret
    exact ⟨ret_bool (by rw [HE.out]; rfl), rfl⟩

/-! ### consists -/

/-- all of the first k bytes are accepted -/
def upto (ok : UInt8 → Bool) (s : ByteArray) (k : Nat) : Prop := (s.data.toList.take k).all ok = true
theorem upto_next {ok : UInt8 → Bool} {s : ByteArray} {k : Nat} (h : upto ok s k) (hk : k < s.size) (hok : ok s[k] = true) : upto ok s (k + 1) := by
  unfold upto at *
  rw [take_snoc s k hk, List.all_append, h]
  simp [hok]
theorem upto_stop {ok : UInt8 → Bool} {s : ByteArray} {k : Nat} (hk : k < s.size) (hok : ok s[k] = false) : s.data.toList.all ok = false := by
  rw [← List.take_append_drop (k + 1) s.data.toList, take_snoc s k hk]
  simp [hok]
def all24 (ok : UInt8 → Bool) (s : ByteArray) : Bool := decide (s.size ≤ 24) && s.data.toList.all ok
theorem all24_long {ok : UInt8 → Bool} {s : ByteArray} (h : ¬ s.size ≤ 24) : all24 ok s = false := by unfold all24; rw [decide_eq_false h]; rfl
theorem all24_bad {ok : UInt8 → Bool} {s : ByteArray} {k : Nat} (hk : k < s.size) (hok : ok s[k] = false) : all24 ok s = false := by unfold all24; rw [upto_stop hk hok, Bool.and_false]
theorem all24_good {ok : UInt8 → Bool} {s : ByteArray} (h : s.size ≤ 24) (hu : upto ok s s.size) : all24 ok s = true := by
  unfold all24 upto at *
  rw [take_all] at hu
  rw [decide_eq_true h, hu]; rfl
end Go.Proofs.Ytieloegadhgipaa.K
namespace Go.Proofs.Ytieloegadhgipaa.K
open Go.RowKit

set_option maxRecDepth 100000 in
theorem consists_38 (ok : UInt8 → Bool) (s : ByteArray) (hs : s.size ≤ 9223372036854775807) {w : World} {p q : Addr}
    (hc : ∀ c : UInt8, Calls Try.prog 93 #[.int .u8 (c.toNat : Int), .pointer (some p), .pointer (some q)] w fun e w' => e = .returned (.bool (ok c)) ∧ w' = w) :
    Calls Try.prog 82 #[.string s, .func (Fn.func 93) #[] #[.pointer (some p), .pointer (some q)]] w fun e w' => e = .returned (.bool (all24 ok s)) ∧ w' = w := by
  have HC := Lib.hid hc
  clear hc
  by_cases h24 : s.size ≤ 24
  · have HL := Lib.hid (all24_good (ok := ok) h24)
    go_enter Try.func82, Try.ntmps82
    go_wp2
    go_loop [11] (fun vi => ∃ k : Nat, k ≤ s.size ∧ vi = .int .i64 k ∧ Hid (upto ok s k)) (fun vi => s.size - (intOf vi).toNat)
    case atStart => exact ⟨0, Nat.zero_le _, rfl, rfl⟩
    case round =>
      obtain ⟨k, hk, rfl, HU⟩ := hrel
      by_cases hlt : k < s.size
      · have HX := Lib.hid (HC.out s[k])
        by_cases hok : ok s[k] = true
        · have HN := Lib.hid (upto_next HU.out hlt hok)
          rw [hok] at HX
          clear hok
          go_wp2_with fail
          refine HX.out.mono ?_; rintro e w' ⟨rfl, rfl⟩
          go_wp2_with fail
          go_round
          case rel => exact ⟨k + 1, by omega, by go_num, HN⟩
          case measure => simp [intOf]; omega
        · rw [Bool.not_eq_true] at hok
          have HB := Lib.hid (all24_bad hlt hok)
          rw [hok] at HX
          clear hok
          go_wp2_with fail
          refine HX.out.mono ?_; rintro e w' ⟨rfl, rfl⟩
          go_wp2_with fail
          go_ret
          exact ⟨ret_bool HB.out.symm, rfl⟩
      · obtain rfl : s.size = k := by omega
        have HG := Lib.hid (HL.out HU.out)
        go_wp2_with fail
        go_ret
        exact ⟨ret_bool HG.out.symm, rfl⟩
  · have HB := Lib.hid (all24_long (ok := ok) h24)
    go_enter Try.func82, Try.ntmps82
    go_wp2
    go_ret
    exact ⟨ret_bool HB.out.symm, rfl⟩
set_option maxRecDepth 100000 in
theorem consists_33 (ok : UInt8 → Bool) (s : ByteArray) (hs : s.size ≤ 9223372036854775807) {w : World} {p q : Addr}
    (hc : ∀ c : UInt8, Calls Try.prog 83 #[.int .u8 (c.toNat : Int), .pointer (some p), .pointer (some q)] w fun e w' => e = .returned (.bool (ok c)) ∧ w' = w) :
    Calls Try.prog 82 #[.string s, .func (Fn.func 83) #[] #[.pointer (some p), .pointer (some q)]] w fun e w' => e = .returned (.bool (all24 ok s)) ∧ w' = w := by
  have HC := Lib.hid hc
  clear hc
  by_cases h24 : s.size ≤ 24
  · have HL := Lib.hid (all24_good (ok := ok) h24)
    go_enter Try.func82, Try.ntmps82
    go_wp2
    go_loop [11] (fun vi => ∃ k : Nat, k ≤ s.size ∧ vi = .int .i64 k ∧ Hid (upto ok s k)) (fun vi => s.size - (intOf vi).toNat)
    case atStart => exact ⟨0, Nat.zero_le _, rfl, rfl⟩
    case round =>
      obtain ⟨k, hk, rfl, HU⟩ := hrel
      by_cases hlt : k < s.size
      · have HX := Lib.hid (HC.out s[k])
        by_cases hok : ok s[k] = true
        · have HN := Lib.hid (upto_next HU.out hlt hok)
          rw [hok] at HX
          clear hok
          go_wp2_with fail
          refine HX.out.mono ?_; rintro e w' ⟨rfl, rfl⟩
          go_wp2_with fail
          go_round
          case rel => exact ⟨k + 1, by omega, by go_num, HN⟩
          case measure => simp [intOf]; omega
        · rw [Bool.not_eq_true] at hok
          have HB := Lib.hid (all24_bad hlt hok)
          rw [hok] at HX
          clear hok
          go_wp2_with fail
          refine HX.out.mono ?_; rintro e w' ⟨rfl, rfl⟩
          go_wp2_with fail
          go_ret
          exact ⟨ret_bool HB.out.symm, rfl⟩
      · obtain rfl : s.size = k := by omega
        have HG := Lib.hid (HL.out HU.out)
        go_wp2_with fail
        go_ret
        exact ⟨ret_bool HG.out.symm, rfl⟩
  · have HB := Lib.hid (all24_long (ok := ok) h24)
    go_enter Try.func82, Try.ntmps82
    go_wp2
    go_ret
    exact ⟨ret_bool HB.out.symm, rfl⟩
end Go.Proofs.Ytieloegadhgipaa.K
namespace Go.Proofs.Ytieloegadhgipaa.K
open Go.RowKit

theorem span_new (w : World) (a b : Nat) : Span ((w.alloc (.cells #[.int .u8 a] 5)).alloc (.cells #[.int .u8 b] 5)) ⟨w.heap.size, 0, none⟩ ⟨w.heap.size + 1, 0, none⟩ a b :=
  ⟨by go_simp, by go_simp⟩
theorem bound_eq (s : ByteArray) : all24 (spanOk 33 126) s = bound s.data.toList := by
  unfold all24 bound
  rw [size_len]; rfl
theorem below_alloc2 (w : World) (a b : Obj) : Below w.heap.size w ((w.alloc a).alloc b) := ((Below.refl _ _).alloc (Nat.le_refl _) _).alloc (by simp) _
set_option maxRecDepth 100000 in
theorem isBound_any (s : ByteArray) (hs : s.size ≤ 9223372036854775807) (w : World) :
    Calls Try.prog 77 #[.string s] w fun e w' => e = .returned (.bool (bound s.data.toList)) ∧ Below w.heap.size w w' := by
  have h1 : ∀ w, Calls Try.prog 81 #[.int .u8 33, .int .u8 126] w fun e w' => e = .returned (.func (Fn.func 93) #[] #[.pointer (some ⟨w.heap.size, 0, none⟩), .pointer (some ⟨w.heap.size + 1, 0, none⟩)]) ∧ w' = (w.alloc (.cells #[.int .u8 33] 5)).alloc (.cells #[.int .u8 126] 5) := between_any 33 126
  have h2 := consists_38 (spanOk 33 126) s hs (span_any (span_new w 33 126))
  have HB := Lib.hid (below_alloc2 w (.cells #[.int .u8 33] 5) (.cells #[.int .u8 126] 5))
  rw [bound_eq] at h2
  have H1 := Lib.hid h1
  have H2 := Lib.hid h2
  clear h1 h2
  go_enter Try.func77, Try.ntmps77
  go_wp2_with fail
  refine (H1.out _).mono ?_; rintro e w' ⟨rfl, rfl⟩
  go_wp2_with fail
  refine H2.out.mono ?_; rintro e w' ⟨rfl, rfl⟩
  go_wp2_with fail
  go_ret
  exact ⟨rfl, HB.out⟩

/-- the world in which Valid's closure is called -/
def keysWorld (w : World) : World :=
  (((((w.alloc (.cells #[.int .u8 97] 5)).alloc (.cells #[.int .u8 122] 5)).alloc (.cells #[.int .u8 48] 5)).alloc (.cells #[.int .u8 57] 5)).alloc
    (.cells #[.func (Fn.func 93) #[] #[.pointer (some ⟨w.heap.size, 0, none⟩), .pointer (some ⟨w.heap.size + 1, 0, none⟩)]] 84)).alloc
    (.cells #[.func (Fn.func 93) #[] #[.pointer (some ⟨w.heap.size + 1 + 1, 0, none⟩), .pointer (some ⟨w.heap.size + 1 + 1 + 1, 0, none⟩)]] 84)
theorem keys_new (w : World) : Keys (keysWorld w) ⟨w.heap.size + 1 + 1 + 1 + 1, 0, none⟩ ⟨w.heap.size + 1 + 1 + 1 + 1 + 1, 0, none⟩ ⟨w.heap.size, 0, none⟩ ⟨w.heap.size + 1, 0, none⟩ ⟨w.heap.size + 1 + 1, 0, none⟩ ⟨w.heap.size + 1 + 1 + 1, 0, none⟩ := by
  unfold keysWorld
  exact ⟨by go_simp, by go_simp, ⟨by go_simp, by go_simp⟩, ⟨by go_simp, by go_simp⟩⟩
theorem keys_below (w : World) : Below w.heap.size w (keysWorld w) := by
  unfold keysWorld
  exact ((((((Below.refl _ _).alloc (Nat.le_refl _) _).alloc (by simp) _).alloc (by simp; omega) _).alloc (by simp; omega) _).alloc (by simp; omega) _).alloc (by simp; omega) _
theorem empty_iff (s : ByteArray) : s.toList.isEmpty = decide (s.data.toList = []) := by
  rw [Lib.toList_data]
  cases s.data.toList <;> simp
theorem valid_eq (s : ByteArray) (h : s.data.toList ≠ []) : all24 okKey s = valid s.data.toList := by
  have hl : 1 ≤ s.data.toList.length := by
    cases h2 : s.data.toList with
    | nil => exact absurd h2 h
    | cons a l => simp
  unfold all24 valid
  rw [size_len, show decide (s.data.toList.length ≤ 24) = decide (1 ≤ s.data.toList.length ∧ s.data.toList.length ≤ 24) from decide_eq_decide.2 ⟨fun h => ⟨hl, h⟩, fun h => h.2⟩]
set_option maxRecDepth 100000 in
theorem valid_any (s : ByteArray) (hs : s.size ≤ 9223372036854775807) (w : World) :
    Calls Try.prog 61 #[.string s] w fun e w' => e = .returned (.bool (valid s.data.toList)) ∧ Below w.heap.size w w' := by
  have h1 : ∀ w, Calls Try.prog 81 #[.int .u8 97, .int .u8 122] w fun e w' => e = .returned (.func (Fn.func 93) #[] #[.pointer (some ⟨w.heap.size, 0, none⟩), .pointer (some ⟨w.heap.size + 1, 0, none⟩)]) ∧ w' = (w.alloc (.cells #[.int .u8 97] 5)).alloc (.cells #[.int .u8 122] 5) := between_any 97 122
  have h2 : ∀ w, Calls Try.prog 81 #[.int .u8 48, .int .u8 57] w fun e w' => e = .returned (.func (Fn.func 93) #[] #[.pointer (some ⟨w.heap.size, 0, none⟩), .pointer (some ⟨w.heap.size + 1, 0, none⟩)]) ∧ w' = (w.alloc (.cells #[.int .u8 48] 5)).alloc (.cells #[.int .u8 57] 5) := between_any 48 57
  have H1 := Lib.hid h1
  have H2 := Lib.hid h2
  have HW := Lib.hid (keys_below w)
  clear h1 h2
  by_cases hn : s.data.toList = []
  · have he : s.toList.isEmpty = true := by rw [empty_iff]; exact decide_eq_true hn
    have HV : Hid (valid s.data.toList = false) := by rw [hn]; rfl
    clear hn
    go_enter Try.func61, Try.ntmps61
    go_wp2_with fail
    refine (H1.out _).mono ?_; rintro e w' ⟨rfl, rfl⟩
    go_wp2_with fail
    refine (H2.out _).mono ?_; rintro e w' ⟨rfl, rfl⟩
    go_wp2_with fail
    go_ret
    exact ⟨ret_bool HV.out.symm, HW.out⟩
  · have he : s.toList.isEmpty = false := by rw [empty_iff]; exact decide_eq_false hn
    have h3 := consists_33 okKey s hs (keys_any (keys_new w))
    rw [valid_eq s hn] at h3
    have H3 := Lib.hid h3
    clear hn h3
    go_enter Try.func61, Try.ntmps61
    go_wp2_with fail
    refine (H1.out _).mono ?_; rintro e w' ⟨rfl, rfl⟩
    go_wp2_with fail
    refine (H2.out _).mono ?_; rintro e w' ⟨rfl, rfl⟩
    go_wp2_with fail
    refine H3.out.mono ?_; rintro e w' ⟨rfl, rfl⟩
    go_wp2_with fail
    go_ret
    exact ⟨rfl, HW.out⟩

/-! ### the reference -/

theorem all_bad {ok : UInt8 → Bool} {s : ByteArray} {k : Nat} (hk : k < s.size) (hok : ok s[k] = false) : s.data.toList.all ok = false := upto_stop hk hok
theorem all_good {ok : UInt8 → Bool} {s : ByteArray} (hu : upto ok s s.size) : s.data.toList.all ok = true := by
  unfold upto at hu
  rw [take_all] at hu
  exact hu
theorem okBound_iff (c : UInt8) : okBound c = true ↔ (33 : Int) ≤ (c.toNat : Int) ∧ (c.toNat : Int) ≤ 126 := by
  unfold okBound
  rw [decide_eq_true_iff]
  omega
theorem okKey_iff (c : UInt8) : okKey c = true ↔ ((97 : Int) ≤ (c.toNat : Int) ∧ (c.toNat : Int) ≤ 122 ∨ (48 : Int) ≤ (c.toNat : Int) ∧ (c.toNat : Int) ≤ 57 ∨ (c.toNat : Int) = 47 ∨ (c.toNat : Int) = 46 ∨ (c.toNat : Int) = 95 ∨ (c.toNat : Int) = 45) := by
  unfold okKey
  rw [decide_eq_true_iff]
  omega
set_option maxRecDepth 100000 in
theorem rbound_any (s : ByteArray) (hs : s.size ≤ 9223372036854775807) (w : World) :
    Calls Try.prog 87 #[.string s] w fun e w' => e = .returned (.bool (bound s.data.toList)) ∧ w' = w := by
  go_enter Try.func87, Try.ntmps87
  go_wp2
  go_loop [3] (fun vi => ∃ k : Nat, k ≤ s.size ∧ vi = .int .i64 k ∧ Hid (upto okBound s k)) (fun vi => s.size - (intOf vi).toNat)
  case atStart => exact ⟨0, Nat.zero_le _, rfl, rfl⟩
  case round =>
    obtain ⟨k, hk, rfl, HU⟩ := hrel
    by_cases hlt : k < s.size
    · by_cases hok : okBound s[k] = true
      · have HN := Lib.hid (upto_next HU.out hlt hok)
        obtain ⟨g1, g2⟩ := (okBound_iff _).1 hok
        clear hok
        go_wp2
        go_round
        case rel => exact ⟨k + 1, by omega, by go_num, HN⟩
        case measure => simp [intOf]; omega
      · rw [Bool.not_eq_true] at hok
        have HB : Hid (bound s.data.toList = false) := by unfold bound; rw [upto_stop hlt hok, Bool.and_false]; rfl
        have HO := Lib.hid hok
        clear hok
        go_wp2
        all_goals first
          | (go_ret; exact ⟨ret_bool HB.out.symm, rfl⟩)
          | (exfalso; have h := (okBound_iff s[k]).2 (by omega); rw [HO.out] at h; exact absurd h (by decide))
    · obtain rfl : s.size = k := by omega
      have HB : Hid (decide (s.size ≤ 24) = bound s.data.toList) := by unfold bound; rw [all_good HU.out, Bool.and_true, size_len]; rfl
      go_wp2
      go_ret
      exact ⟨ret_bool (by rw [← HB.out]; simp; omega), rfl⟩
set_option maxRecDepth 100000 in
theorem rvalid_any (s : ByteArray) (hs : s.size ≤ 9223372036854775807) (w : World) :
    Calls Try.prog 86 #[.string s] w fun e w' => e = .returned (.bool (valid s.data.toList)) ∧ w' = w := by
  go_enter Try.func86, Try.ntmps86
  go_wp2
  go_loop [3, 4] (fun vi _ => ∃ k : Nat, k ≤ s.size ∧ vi = .int .i64 k ∧ Hid (upto okKey s k)) (fun vi _ => s.size - (intOf vi).toNat)
  case atStart => exact ⟨0, Nat.zero_le _, rfl, rfl⟩
  case round =>
    obtain ⟨k, hk, rfl, HU⟩ := hrel
    by_cases hlt : k < s.size
    · by_cases hok : okKey s[k] = true
      · have HN := Lib.hid (upto_next HU.out hlt hok)
        have hor := (okKey_iff _).1 hok
        clear hok
        rcases hor with ⟨g1, g2⟩ | ⟨g1, g2⟩ | g | g | g | g
        all_goals
          go_wp2
          go_round
          case rel => exact ⟨k + 1, by omega, by go_num, HN⟩
          case measure => simp [intOf]; omega
      · rw [Bool.not_eq_true] at hok
        have HB : Hid (valid s.data.toList = false) := by unfold valid; rw [upto_stop hlt hok, Bool.and_false]; rfl
        have HO := Lib.hid hok
        clear hok
        go_wp2
        all_goals first
          | (go_ret; exact ⟨ret_bool HB.out.symm, rfl⟩)
          | (exfalso; have h := (okKey_iff s[k]).2 (by simp only [bne_eq_false_iff_eq] at *; omega); rw [HO.out] at h; exact absurd h (by decide))
    · obtain rfl : s.size = k := by omega
      have HB : Hid (decide (1 ≤ s.size ∧ s.size ≤ 24) = valid s.data.toList) := by unfold valid; rw [all_good HU.out, Bool.and_true, size_len]; rfl
      go_wp2
      all_goals (go_ret; exact ⟨ret_bool (by rw [← HB.out]; first | exact decide_eq_decide.2 (by omega) | exact (decide_eq_false (by omega)).symm), rfl⟩)
end Go.Proofs.Ytieloegadhgipaa.K
namespace Go.Proofs.Ytieloegadhgipaa.K
open Go.RowKit

/-! ### the model's order of strings, in plain words -/

theorem less_eq : ∀ (x y : List UInt8), Op.bytesLess x y = decide (x < y)
  | [], [] => by simp [Op.bytesLess]
  | _ :: _, [] => by simp [Op.bytesLess]
  | [], _ :: _ => by simp [Op.bytesLess]
  | a :: x, b :: y => by
    rw [Op.bytesLess, less_eq x y]
    simp only [List.cons_lt_cons_iff]
    by_cases h1 : a < b <;> by_cases h2 : a = b <;> by_cases h3 : x < y <;> simp [h1, h2, h3]
theorem lss_eq (a b : ByteArray) : Op.bytesLess a.toList b.toList = decide (a.data.toList < b.data.toList) := by rw [less_eq, Lib.toList_data, Lib.toList_data]
theorem eql_eq (a b : ByteArray) : (a.toList == b.toList) = decide (a.data.toList = b.data.toList) := by rw [Lib.toList_data, Lib.toList_data]; exact Bool.beq_eq_decide_eq _ _
theorem gtr_eq (a b : ByteArray) : (!Op.bytesLess a.toList b.toList && !(a.toList == b.toList)) = decide (b.data.toList < a.data.toList) := by
  rw [lss_eq, eql_eq]
  refine bool_iff ?_
  simp only [Bool.and_eq_true, Bool.not_eq_true', decide_eq_false_iff_not, decide_eq_true_iff]
  constructor
  · rintro ⟨h1, h2⟩
    exact Decidable.byContradiction fun h3 => h2 (lt_tri h1 h3)
  · intro h
    exact ⟨fun h2 => lt_irr _ (lt_tra h h2), fun h2 => lt_irr b.data.toList (by rw [← h2] at h ⊢; exact h)⟩

/-! ### ValidRange -/

/-- w holds a range's two ends at block b -/
structure Has (w : World) (b : Nat) (f t : ByteArray) : Prop where
  fst : w.cell? ⟨b, 0, none⟩ = some (.string f)
  snd : w.cell? ⟨b, 1, none⟩ = some (.string t)
theorem Has.box (w : World) (f t : ByteArray) : Has (w.alloc (.cells #[.string f, .string t] 35)) w.heap.size f t := ⟨by go_simp, by go_simp⟩
theorem Has.box2 (w : World) (o : Obj) (f t : ByteArray) : Has ((w.alloc o).alloc (.cells #[.string f, .string t] 35)) (w.heap.size + 1) f t := ⟨by go_simp, by go_simp⟩
theorem Has.below {w w' : World} {b B : Nat} {f t : ByteArray} (h : Has w b f t) (hb : Below B w w') (hB : b < B) : Has w' b f t :=
  ⟨(hb.cell (by exact hB)).trans h.fst, (hb.cell (by exact hB)).trans h.snd⟩
theorem Has.alloc {w : World} {b : Nat} {f t : ByteArray} (h : Has w b f t) (hB : b < w.heap.size) (o : Obj) : Has (w.alloc o) b f t :=
  h.below ((Below.refl w.heap.size w).alloc (Nat.le_refl _) o) hB

theorem below_box (w : World) (f t : ByteArray) : Below w.heap.size w (w.alloc (.cells #[.string f, .string t] 35)) := (Below.refl _ _).alloc (Nat.le_refl _) _
theorem below_box2 {w w1 w2 : World} {f t : ByteArray} (h1 : Below (w.alloc (.cells #[.string f, .string t] 35)).heap.size (w.alloc (.cells #[.string f, .string t] 35)) w1) (h2 : Below w1.heap.size w1 w2) : Below w.heap.size w w2 :=
  below_2 (below_2 (below_box w f t) h1) h2
theorem under_bool (k t : ByteArray) : under k.data.toList t.data.toList = (t.toList.isEmpty || Op.bytesLess k.toList t.toList) := by
  rw [empty_iff, lss_eq]
  refine bool_iff ?_
  rw [under_iff, Bool.or_eq_true, decide_eq_true_iff, decide_eq_true_iff]
theorem under_gtr (f t : ByteArray) : under f.data.toList t.data.toList = (t.toList.isEmpty || (!Op.bytesLess t.toList f.toList && !(t.toList == f.toList))) := by
  rw [under_bool, gtr_eq, lss_eq]
set_option maxRecDepth 100000 in
theorem vrange_any (f t : ByteArray) (hf : f.size ≤ 9223372036854775807) (ht : t.size ≤ 9223372036854775807) (w : World) :
    Calls Try.prog 57 #[.agg #[.string f, .string t]] w fun e w' => e = .returned (.bool (vr f.data.toList t.data.toList)) ∧ Below w.heap.size w w' := by
  have h1 := isBound_any f hf
  have h2 := isBound_any t ht
  have HB := Lib.hid (Has.box w f t)
  have HV : Hid (vr f.data.toList t.data.toList = (bound f.data.toList && bound t.data.toList && (t.toList.isEmpty || (!Op.bytesLess t.toList f.toList && !(t.toList == f.toList))))) := by rw [← under_gtr]; rfl
  have HW := Lib.hid (fun w1 w2 => below_box2 (w := w) (w1 := w1) (w2 := w2) (f := f) (t := t))
  generalize bound f.data.toList = A at h1 HV
  generalize bound t.data.toList = B at h2 HV
  have H1 := Lib.hid h1
  have H2 := Lib.hid h2
  clear h1 h2
  cases A
  · go_enter Try.func57, Try.ntmps57
    go_wp2_with fail
    refine (H1.out _).mono ?_; rintro e w1 ⟨rfl, hb1⟩
    go_wp2_with fail
    go_ret
    exact ⟨ret_bool (by rw [HV.out]; rfl), HW.out _ _ hb1 (Below.refl _ _)⟩
  · cases B
    · go_enter Try.func57, Try.ntmps57
      go_wp2_with fail
      refine (H1.out _).mono ?_; rintro e w1 ⟨rfl, hb1⟩
      obtain ⟨c0, c1⟩ := HB.out.below hb1 (by simp)
      go_wp2_with fail
      refine (H2.out _).mono ?_; rintro e w2 ⟨rfl, hb2⟩
      go_wp2_with fail
      go_ret
      exact ⟨ret_bool (by rw [HV.out]; rfl), HW.out _ _ hb1 hb2⟩
    · cases he : t.toList.isEmpty
      all_goals
        rw [he] at HV
        go_enter Try.func57, Try.ntmps57
        go_wp2_with fail
        refine (H1.out _).mono ?_; rintro e w1 ⟨rfl, hb1⟩
        have HB1 := Lib.hid (HB.out.below hb1 (by simp))
        obtain ⟨c0, c1⟩ := HB1.out
        go_wp2_with fail
        refine (H2.out _).mono ?_; rintro e w2 ⟨rfl, hb2⟩
        obtain ⟨d0, d1⟩ := HB1.out.below hb2 (by have := hb1.size; simp at this; omega)
        go_wp2_with fail
        go_ret
        exact ⟨ret_bool (by rw [HV.out]; rfl), HW.out _ _ hb1 hb2⟩
set_option maxRecDepth 100000 in
theorem rvrange_any (f t : ByteArray) (hf : f.size ≤ 9223372036854775807) (ht : t.size ≤ 9223372036854775807) (w : World) :
    Calls Try.prog 66 #[.agg #[.string f, .string t]] w fun e w' => e = .returned (.bool (vr f.data.toList t.data.toList)) ∧ Below w.heap.size w w' := by
  have h1 := rbound_any f hf
  have h2 := rbound_any t ht
  have HV : Hid (vr f.data.toList t.data.toList = (bound f.data.toList && bound t.data.toList && (t.toList.isEmpty || (!Op.bytesLess t.toList f.toList && !(t.toList == f.toList))))) := by rw [← under_gtr]; rfl
  have HW := Lib.hid (below_box w f t)
  generalize bound f.data.toList = A at h1 HV
  generalize bound t.data.toList = B at h2 HV
  have H1 := Lib.hid h1
  have H2 := Lib.hid h2
  clear h1 h2
  cases A
  · go_enter Try.func66, Try.ntmps66
    go_wp2_with fail
    refine (H1.out _).mono ?_; rintro e w1 ⟨rfl, rfl⟩
    go_wp2_with fail
    go_ret
    exact ⟨ret_bool (by rw [HV.out]; rfl), HW.out⟩
  · cases B
    · go_enter Try.func66, Try.ntmps66
      go_wp2_with fail
      refine (H1.out _).mono ?_; rintro e w1 ⟨rfl, rfl⟩
      go_wp2_with fail
      refine (H2.out _).mono ?_; rintro e w2 ⟨rfl, rfl⟩
      go_wp2_with fail
      go_ret
      exact ⟨ret_bool (by rw [HV.out]; rfl), HW.out⟩
    · cases he : t.toList.isEmpty
      all_goals
        rw [he] at HV
        go_enter Try.func66, Try.ntmps66
        go_wp2_with fail
        refine (H1.out _).mono ?_; rintro e w1 ⟨rfl, rfl⟩
        go_wp2_with fail
        refine (H2.out _).mono ?_; rintro e w2 ⟨rfl, rfl⟩
        go_wp2_with fail
        go_ret
        exact ⟨ret_bool (by rw [HV.out]; rfl), HW.out⟩

/-! ### Contains -/

theorem over_eq (k f : ByteArray) : (!Op.bytesLess k.toList f.toList) = decide (¬ k.data.toList < f.data.toList) := by rw [lss_eq, decide_not]
set_option maxRecDepth 100000 in
theorem contains_any (f t k : ByteArray) (hf : f.size ≤ 9223372036854775807) (ht : t.size ≤ 9223372036854775807) (w : World) :
    Calls Try.prog 30 #[.agg #[.string f, .string t], .string k] w fun e w' => e = .returned (.bool (cont f.data.toList t.data.toList k.data.toList)) ∧ Below w.heap.size w w' := by
  have h1 := vrange_any f t hf ht
  have HB := Lib.hid (Has.box w f t)
  have HV : Hid (cont f.data.toList t.data.toList k.data.toList = (vr f.data.toList t.data.toList && (!Op.bytesLess k.toList f.toList) && (t.toList.isEmpty || Op.bytesLess k.toList t.toList))) := by rw [← under_bool, over_eq]; rfl
  have HW := Lib.hid (fun w1 (h : Below (w.alloc (.cells #[.string f, .string t] 35)).heap.size (w.alloc (.cells #[.string f, .string t] 35)) w1) => below_2 (below_box w f t) h)
  generalize vr f.data.toList t.data.toList = A at h1 HV
  have H1 := Lib.hid h1
  clear h1
  cases A
  · go_enter Try.func30, Try.ntmps30
    go_wp2_with fail
    refine (H1.out _).mono ?_; rintro e w1 ⟨rfl, hb1⟩
    go_wp2_with fail
    go_ret
    exact ⟨ret_bool (by rw [HV.out]; rfl), HW.out _ hb1⟩
  · cases hl : Op.bytesLess k.toList f.toList
    · cases he : t.toList.isEmpty
      all_goals
        rw [hl, he] at HV
        go_enter Try.func30, Try.ntmps30
        go_wp2_with fail
        refine (H1.out _).mono ?_; rintro e w1 ⟨rfl, hb1⟩
        obtain ⟨c0, c1⟩ := HB.out.below hb1 (by simp)
        go_wp2_with fail
        go_ret
        exact ⟨ret_bool (by rw [HV.out]; rfl), HW.out _ hb1⟩
    · rw [hl] at HV
      go_enter Try.func30, Try.ntmps30
      go_wp2_with fail
      refine (H1.out _).mono ?_; rintro e w1 ⟨rfl, hb1⟩
      obtain ⟨c0, c1⟩ := HB.out.below hb1 (by simp)
      go_wp2_with fail
      go_ret
      exact ⟨ret_bool (by rw [HV.out]; rfl), HW.out _ hb1⟩
set_option maxRecDepth 100000 in
theorem rcontains_any (f t k : ByteArray) (hf : f.size ≤ 9223372036854775807) (ht : t.size ≤ 9223372036854775807) (w : World) :
    Calls Try.prog 45 #[.agg #[.string f, .string t], .string k] w fun e w' => e = .returned (.bool (cont f.data.toList t.data.toList k.data.toList)) ∧ Below w.heap.size w w' := by
  have h1 := rvrange_any f t hf ht
  have HB := Lib.hid (Has.box w f t)
  have HV : Hid (cont f.data.toList t.data.toList k.data.toList = (vr f.data.toList t.data.toList && (!Op.bytesLess k.toList f.toList) && (t.toList.isEmpty || Op.bytesLess k.toList t.toList))) := by rw [← under_bool, over_eq]; rfl
  have HW := Lib.hid (fun w1 (h : Below (w.alloc (.cells #[.string f, .string t] 35)).heap.size (w.alloc (.cells #[.string f, .string t] 35)) w1) => below_2 (below_box w f t) h)
  generalize vr f.data.toList t.data.toList = A at h1 HV
  have H1 := Lib.hid h1
  clear h1
  cases A
  · go_enter Try.func45, Try.ntmps45
    go_wp2_with fail
    refine (H1.out _).mono ?_; rintro e w1 ⟨rfl, hb1⟩
    go_wp2_with fail
    go_ret
    exact ⟨ret_bool (by rw [HV.out]; rfl), HW.out _ hb1⟩
  · cases hl : Op.bytesLess k.toList f.toList
    · cases he : t.toList.isEmpty
      all_goals
        rw [hl, he] at HV
        go_enter Try.func45, Try.ntmps45
        go_wp2_with fail
        refine (H1.out _).mono ?_; rintro e w1 ⟨rfl, hb1⟩
        obtain ⟨c0, c1⟩ := HB.out.below hb1 (by simp)
        go_wp2_with fail
        go_ret
        exact ⟨ret_bool (by rw [HV.out]; rfl), HW.out _ hb1⟩
    · rw [hl] at HV
      go_enter Try.func45, Try.ntmps45
      go_wp2_with fail
      refine (H1.out _).mono ?_; rintro e w1 ⟨rfl, hb1⟩
      obtain ⟨c0, c1⟩ := HB.out.below hb1 (by simp)
      go_wp2_with fail
      go_ret
      exact ⟨ret_bool (by rw [HV.out]; rfl), HW.out _ hb1⟩

/-! ### Covers -/

theorem leq_eq (a b : ByteArray) : (Op.bytesLess a.toList b.toList || a.toList == b.toList) = decide (¬ b.data.toList < a.data.toList) := by
  rw [decide_not, ← gtr_eq, Bool.not_and, Bool.not_not, Bool.not_not]
theorem ends_bool (t u : ByteArray) : ends t.data.toList u.data.toList = (u.toList.isEmpty || (!t.toList.isEmpty && (Op.bytesLess t.toList u.toList || t.toList == u.toList))) := by
  rw [leq_eq, empty_iff, empty_iff]
  refine bool_iff ?_
  rw [ends_iff, Bool.or_eq_true, Bool.and_eq_true, Bool.not_eq_true', decide_eq_true_iff, decide_eq_true_iff, decide_eq_false_iff_not]
theorem covers_bool (fa ta fb tb : ByteArray) : covers fa.data.toList ta.data.toList fb.data.toList tb.data.toList = (!vr fb.data.toList tb.data.toList || (vr fa.data.toList ta.data.toList && (Op.bytesLess fa.toList fb.toList || fa.toList == fb.toList) && ends tb.data.toList ta.data.toList)) := by
  rw [leq_eq]; rfl
theorem below_boxes (w : World) (f t g u : ByteArray) : Below w.heap.size w ((w.alloc (.cells #[.string f, .string t] 35)).alloc (.cells #[.string g, .string u] 35)) := below_alloc2 w _ _
theorem rcovers_bool (fa ta fb tb : ByteArray) : covers fa.data.toList ta.data.toList fb.data.toList tb.data.toList = (!vr fb.data.toList tb.data.toList || (vr fa.data.toList ta.data.toList && (Op.bytesLess fa.toList fb.toList || fa.toList == fb.toList) && (ta.toList.isEmpty || (!tb.toList.isEmpty && (Op.bytesLess tb.toList ta.toList || tb.toList == ta.toList))))) := by
  rw [covers_bool, ends_bool]
end Go.Proofs.Ytieloegadhgipaa.K
