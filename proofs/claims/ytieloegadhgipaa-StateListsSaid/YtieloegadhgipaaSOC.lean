/-
  Two ascending lists merged: the mathematics of what Apply, Union and Diff make of it.
-/
import Derived.Test.YtieloegadhgipaaSOA
import Derived.Test.YtieloegadhgipaaSDiffs
namespace Go.Proofs.Ytieloegadhgipaa.S
open Go.RowKit
open Go.Proofs.Ytieloegadhgipaa.V (ret_bool ret_int ret_string below_2 below_box below_box2 size_len)

/-- what a merge makes of two lists, by what is chosen of each key -/
def mrg (ch : List P → List P → List P) : List P → List P → List P
  | [], [] => []
  | x :: xs, [] => ch [x] [] ++ mrg ch xs []
  | [], y :: ys => ch [] [y] ++ mrg ch [] ys
  | x :: xs, y :: ys =>
    if x.key.data.toList < y.key.data.toList then ch [x] [] ++ mrg ch xs (y :: ys)
    else if y.key.data.toList < x.key.data.toList then ch [] [y] ++ mrg ch (x :: xs) ys
    else ch [x] [y] ++ mrg ch xs ys
termination_by xs ys => xs.length + ys.length
theorem mrg_00 (ch : List P → List P → List P) : mrg ch [] [] = [] := by rw [mrg]
theorem mrg_10 (ch : List P → List P → List P) (x : P) (xs : List P) : mrg ch (x :: xs) [] = ch [x] [] ++ mrg ch xs [] := by rw [mrg]
theorem mrg_01 (ch : List P → List P → List P) (y : P) (ys : List P) : mrg ch [] (y :: ys) = ch [] [y] ++ mrg ch [] ys := by rw [mrg]
theorem mrg_lt (ch : List P → List P → List P) {x y : P} (xs ys : List P) (h : x.key.data.toList < y.key.data.toList) : mrg ch (x :: xs) (y :: ys) = ch [x] [] ++ mrg ch xs (y :: ys) := by rw [mrg, if_pos h]
theorem mrg_gt (ch : List P → List P → List P) {x y : P} (xs ys : List P) (h : ¬ x.key.data.toList < y.key.data.toList) (h2 : y.key.data.toList < x.key.data.toList) : mrg ch (x :: xs) (y :: ys) = ch [] [y] ++ mrg ch (x :: xs) ys := by rw [mrg, if_neg h, if_pos h2]
theorem mrg_eq (ch : List P → List P → List P) {x y : P} (xs ys : List P) (h : ¬ x.key.data.toList < y.key.data.toList) (h2 : ¬ y.key.data.toList < x.key.data.toList) : mrg ch (x :: xs) (y :: ys) = ch [x] [y] ++ mrg ch xs ys := by rw [mrg, if_neg h, if_neg h2]

/-! ### what the three choices make -/

def chA (o w : List P) : List P := match w with | [] => o | p :: _ => if p.k = 0 then [] else [p]
def chU (a b : List P) : List P := match a with | [] => b | p :: _ => [p]
def chD (o f : List P) : List P := match f with | [] => (match o with | [] => [] | p :: _ => [⟨p.key, 0, 0, ⟨#[]⟩⟩]) | q :: _ => (match o with | [] => [q] | p :: _ => if p.pr = q.pr then [] else [q])
/-- each pair chosen has the key that was chosen of -/
def Same1 (ch : List P → List P → List P) : Prop := ∀ a b p, p ∈ ch a b → ∃ q, (q ∈ a ∨ q ∈ b) ∧ p.key = q.key
abbrev kl (p : P) : List UInt8 := p.key.data.toList
abbrev upP (xs : List P) : Prop := xs.Pairwise fun p q => kl p < kl q
theorem up_prs {xs : List P} : up (prs xs) ↔ upP xs := by unfold up prs upP; rw [List.pairwise_map]; rfl
/-- the merge of two ascending lists: what is in it, and it ascends if each choice has at most one pair -/
theorem mrg_all (ch : List P → List P → List P) (h1 : ∀ a b, a.length ≤ 1 → b.length ≤ 1 → (ch a b).length ≤ 1) (hs : Same1 ch) : ∀ (n : Nat) (xs ys : List P), xs.length + ys.length ≤ n → upP xs → upP ys →
    upP (mrg ch xs ys) ∧ (∀ p ∈ mrg ch xs ys, ∃ q, (q ∈ xs ∨ q ∈ ys) ∧ p.key = q.key) ∧
    ∀ p, p ∈ mrg ch xs ys ↔ (∃ x ∈ xs, (∀ y ∈ ys, kl y ≠ kl x) ∧ p ∈ ch [x] []) ∨ (∃ y ∈ ys, (∀ x ∈ xs, kl x ≠ kl y) ∧ p ∈ ch [] [y]) ∨ (∃ x ∈ xs, ∃ y ∈ ys, kl x = kl y ∧ p ∈ ch [x] [y]) := by
  intro n
  induction n with
  | zero =>
    intro xs ys hn _ _
    obtain rfl : xs = [] := List.length_eq_zero_iff.1 (by omega)
    obtain rfl : ys = [] := List.length_eq_zero_iff.1 (by omega)
    rw [mrg_00]
    exact ⟨List.Pairwise.nil, fun p hp => (by cases hp), fun p => ⟨fun hp => (by cases hp), fun h => by
      rcases h with ⟨x, hx, _⟩ | ⟨x, hx, _⟩ | ⟨x, hx, _⟩ <;> cases hx⟩⟩
  | succ n ih =>
    intro xs ys hn hx hy
    have step : ∀ (c m : List P), c.length ≤ 1 → upP m → (∀ p ∈ c, ∀ q ∈ m, kl p < kl q) → upP (c ++ m) := by
      intro c m hc hm hcm
      unfold upP
      rw [List.pairwise_append]
      refine ⟨?_, hm, fun a ha b hb => hcm a ha b hb⟩
      match c, hc with
      | [], _ => exact List.Pairwise.nil
      | [p], _ => exact List.pairwise_singleton _ _
    cases xs with
    | nil =>
      cases ys with
      | nil =>
        rw [mrg_00]
        exact ⟨List.Pairwise.nil, fun p hp => (by cases hp), fun p => ⟨fun hp => (by cases hp), fun h => by
          rcases h with ⟨x, hx, _⟩ | ⟨x, hx, _⟩ | ⟨x, hx, _⟩ <;> cases hx⟩⟩
      | cons y ys =>
        have hy2 := List.pairwise_cons.1 hy
        obtain ⟨g1, g2, g3⟩ := ih [] ys (by simp at hn ⊢; omega) hx hy2.2
        rw [mrg_01]
        refine ⟨step _ _ (h1 _ _ (by simp) (by simp)) g1 fun p hp q hq => ?_, fun p hp => ?_, fun p => ?_⟩
        · obtain ⟨p', hp', e⟩ := hs _ _ _ hp
          obtain ⟨q', hq', e'⟩ := g2 _ hq
          rcases hp' with hp' | hp'
          · cases hp'
          · obtain rfl := List.mem_singleton.1 hp'
            rcases hq' with hq' | hq'
            · cases hq'
            · show p.key.data.toList < q.key.data.toList
              rw [e, e']; exact hy2.1 _ hq'
        · rcases List.mem_append.1 hp with hp | hp
          · obtain ⟨p', hp', e⟩ := hs _ _ _ hp
            rcases hp' with hp' | hp'
            · cases hp'
            · obtain rfl := List.mem_singleton.1 hp'
              exact ⟨_, Or.inr List.mem_cons_self, e⟩
          · obtain ⟨q, hq, e⟩ := g2 _ hp
            exact ⟨q, hq.imp_right (List.mem_cons_of_mem _), e⟩
        · rw [List.mem_append, g3]
          constructor
          · rintro (h | ⟨x, hx, _⟩ | ⟨y', hy', -, h⟩ | ⟨x, hx, _⟩)
            · exact Or.inr (Or.inl ⟨y, List.mem_cons_self, fun x hx => (by cases hx), h⟩)
            · cases hx
            · exact Or.inr (Or.inl ⟨y', List.mem_cons_of_mem _ hy', fun x hx => (by cases hx), h⟩)
            · cases hx
          · rintro (⟨x, hx, _⟩ | ⟨y', hy', -, h⟩ | ⟨x, hx, _⟩)
            · cases hx
            · rcases List.mem_cons.1 hy' with rfl | hy'
              · exact Or.inl h
              · exact Or.inr (Or.inr (Or.inl ⟨y', hy', fun x hx => (by cases hx), h⟩))
            · cases hx
    | cons x xs =>
      have hx2 := List.pairwise_cons.1 hx
      cases ys with
      | nil =>
        obtain ⟨g1, g2, g3⟩ := ih xs [] (by simp at hn ⊢; omega) hx2.2 hy
        rw [mrg_10]
        refine ⟨step _ _ (h1 _ _ (by simp) (by simp)) g1 fun p hp q hq => ?_, fun p hp => ?_, fun p => ?_⟩
        · obtain ⟨p', hp', e⟩ := hs _ _ _ hp
          obtain ⟨q', hq', e'⟩ := g2 _ hq
          rcases hp' with hp' | hp'
          · obtain rfl := List.mem_singleton.1 hp'
            rcases hq' with hq' | hq'
            · show p.key.data.toList < q.key.data.toList
              rw [e, e']; exact hx2.1 _ hq'
            · cases hq'
          · cases hp'
        · rcases List.mem_append.1 hp with hp | hp
          · obtain ⟨p', hp', e⟩ := hs _ _ _ hp
            rcases hp' with hp' | hp'
            · obtain rfl := List.mem_singleton.1 hp'
              exact ⟨_, Or.inl List.mem_cons_self, e⟩
            · cases hp'
          · obtain ⟨q, hq, e⟩ := g2 _ hp
            exact ⟨q, hq.imp_left (List.mem_cons_of_mem _), e⟩
        · rw [List.mem_append, g3]
          constructor
          · rintro (h | ⟨x', hx', -, h⟩ | ⟨y', hy', _⟩ | ⟨x', hx', y', hy', _⟩)
            · exact Or.inl ⟨x, List.mem_cons_self, fun y hy => (by cases hy), h⟩
            · exact Or.inl ⟨x', List.mem_cons_of_mem _ hx', fun y hy => (by cases hy), h⟩
            · cases hy'
            · cases hy'
          · rintro (⟨x', hx', -, h⟩ | ⟨y', hy', _⟩ | ⟨x', hx', y', hy', _⟩)
            · rcases List.mem_cons.1 hx' with rfl | hx'
              · exact Or.inl h
              · exact Or.inr (Or.inl ⟨x', hx', fun y hy => (by cases hy), h⟩)
            · cases hy'
            · cases hy'
      | cons y ys =>
        have hy2 := List.pairwise_cons.1 hy
        by_cases hlt : kl x < kl y
        · obtain ⟨g1, g2, g3⟩ := ih xs (y :: ys) (by simp at hn ⊢; omega) hx2.2 hy
          have hne : ∀ y' ∈ y :: ys, kl y' ≠ kl x := by
            intro y' hy' e
            rcases List.mem_cons.1 hy' with rfl | hy'
            · rw [e] at hlt; exact lt_irr _ hlt
            · have := lt_tra hlt (hy2.1 _ hy'); rw [e] at this; exact lt_irr _ this
          rw [mrg_lt ch xs ys hlt]
          refine ⟨step _ _ (h1 _ _ (by simp) (by simp)) g1 fun p hp q hq => ?_, fun p hp => ?_, fun p => ?_⟩
          · obtain ⟨p', hp', e⟩ := hs _ _ _ hp
            obtain ⟨q', hq', e'⟩ := g2 _ hq
            rcases hp' with hp' | hp'
            · obtain rfl := List.mem_singleton.1 hp'
              show p.key.data.toList < q.key.data.toList
              rw [e, e']
              rcases hq' with hq' | hq'
              · exact hx2.1 _ hq'
              · rcases List.mem_cons.1 hq' with rfl | hq'
                · exact hlt
                · exact lt_tra hlt (hy2.1 _ hq')
            · cases hp'
          · rcases List.mem_append.1 hp with hp | hp
            · obtain ⟨p', hp', e⟩ := hs _ _ _ hp
              rcases hp' with hp' | hp'
              · obtain rfl := List.mem_singleton.1 hp'
                exact ⟨_, Or.inl List.mem_cons_self, e⟩
              · cases hp'
            · obtain ⟨q, hq, e⟩ := g2 _ hp
              exact ⟨q, hq.imp_left (List.mem_cons_of_mem _), e⟩
          · rw [List.mem_append, g3]
            constructor
            · rintro (h | ⟨x', hx', hn', h⟩ | ⟨y', hy', hn', h⟩ | ⟨x', hx', y', hy', he, h⟩)
              · exact Or.inl ⟨x, List.mem_cons_self, hne, h⟩
              · exact Or.inl ⟨x', List.mem_cons_of_mem _ hx', hn', h⟩
              · refine Or.inr (Or.inl ⟨y', hy', fun x' hx' => ?_, h⟩)
                rcases List.mem_cons.1 hx' with rfl | hx'
                · exact fun e => hne y' hy' e.symm
                · exact hn' x' hx'
              · exact Or.inr (Or.inr ⟨x', List.mem_cons_of_mem _ hx', y', hy', he, h⟩)
            · rintro (⟨x', hx', hn', h⟩ | ⟨y', hy', hn', h⟩ | ⟨x', hx', y', hy', he, h⟩)
              · rcases List.mem_cons.1 hx' with rfl | hx'
                · exact Or.inl h
                · exact Or.inr (Or.inl ⟨x', hx', hn', h⟩)
              · exact Or.inr (Or.inr (Or.inl ⟨y', hy', fun x' hx' => hn' x' (List.mem_cons_of_mem _ hx'), h⟩))
              · rcases List.mem_cons.1 hx' with rfl | hx'
                · exact absurd he.symm (hne y' hy')
                · exact Or.inr (Or.inr (Or.inr ⟨x', hx', y', hy', he, h⟩))
        · by_cases hgt : kl y < kl x
          · obtain ⟨g1, g2, g3⟩ := ih (x :: xs) ys (by simp at hn ⊢; omega) hx hy2.2
            have hne : ∀ x' ∈ x :: xs, kl x' ≠ kl y := by
              intro x' hx' e
              rcases List.mem_cons.1 hx' with rfl | hx'
              · rw [e] at hgt; exact lt_irr _ hgt
              · have := lt_tra hgt (hx2.1 _ hx'); rw [e] at this; exact lt_irr _ this
            rw [mrg_gt ch xs ys hlt hgt]
            refine ⟨step _ _ (h1 _ _ (by simp) (by simp)) g1 fun p hp q hq => ?_, fun p hp => ?_, fun p => ?_⟩
            · obtain ⟨p', hp', e⟩ := hs _ _ _ hp
              obtain ⟨q', hq', e'⟩ := g2 _ hq
              rcases hp' with hp' | hp'
              · cases hp'
              · obtain rfl := List.mem_singleton.1 hp'
                show p.key.data.toList < q.key.data.toList
                rw [e, e']
                rcases hq' with hq' | hq'
                · rcases List.mem_cons.1 hq' with rfl | hq'
                  · exact hgt
                  · exact lt_tra hgt (hx2.1 _ hq')
                · exact hy2.1 _ hq'
            · rcases List.mem_append.1 hp with hp | hp
              · obtain ⟨p', hp', e⟩ := hs _ _ _ hp
                rcases hp' with hp' | hp'
                · cases hp'
                · obtain rfl := List.mem_singleton.1 hp'
                  exact ⟨_, Or.inr List.mem_cons_self, e⟩
              · obtain ⟨q, hq, e⟩ := g2 _ hp
                exact ⟨q, hq.imp_right (List.mem_cons_of_mem _), e⟩
            · rw [List.mem_append, g3]
              constructor
              · rintro (h | ⟨x', hx', hn', h⟩ | ⟨y', hy', hn', h⟩ | ⟨x', hx', y', hy', he, h⟩)
                · exact Or.inr (Or.inl ⟨y, List.mem_cons_self, hne, h⟩)
                · refine Or.inl ⟨x', hx', fun y' hy' => ?_, h⟩
                  rcases List.mem_cons.1 hy' with rfl | hy'
                  · exact fun e => hne x' hx' e.symm
                  · exact hn' y' hy'
                · exact Or.inr (Or.inl ⟨y', List.mem_cons_of_mem _ hy', hn', h⟩)
                · exact Or.inr (Or.inr ⟨x', hx', y', List.mem_cons_of_mem _ hy', he, h⟩)
              · rintro (⟨x', hx', hn', h⟩ | ⟨y', hy', hn', h⟩ | ⟨x', hx', y', hy', he, h⟩)
                · exact Or.inr (Or.inl ⟨x', hx', fun y' hy' => hn' y' (List.mem_cons_of_mem _ hy'), h⟩)
                · rcases List.mem_cons.1 hy' with rfl | hy'
                  · exact Or.inl h
                  · exact Or.inr (Or.inr (Or.inl ⟨y', hy', hn', h⟩))
                · rcases List.mem_cons.1 hy' with rfl | hy'
                  · exact absurd he (hne x' hx')
                  · exact Or.inr (Or.inr (Or.inr ⟨x', hx', y', hy', he, h⟩))
          · have heq : kl x = kl y := lt_tri hlt hgt
            obtain ⟨g1, g2, g3⟩ := ih xs ys (by simp at hn ⊢; omega) hx2.2 hy2.2
            have hnx : ∀ x' ∈ xs, kl x' ≠ kl y := fun x' hx' e => by have := hx2.1 _ hx'; rw [e, ← heq] at this; exact lt_irr _ this
            have hny : ∀ y' ∈ ys, kl y' ≠ kl x := fun y' hy' e => by have := hy2.1 _ hy'; rw [e, heq] at this; exact lt_irr _ this
            rw [mrg_eq ch xs ys hlt hgt]
            refine ⟨step _ _ (h1 _ _ (by simp) (by simp)) g1 fun p hp q hq => ?_, fun p hp => ?_, fun p => ?_⟩
            · obtain ⟨p', hp', e⟩ := hs _ _ _ hp
              obtain ⟨q', hq', e'⟩ := g2 _ hq
              have ep : kl p = kl x := by
                rcases hp' with hp' | hp'
                · obtain rfl := List.mem_singleton.1 hp'
                  show p.key.data.toList = _; rw [e]
                · obtain rfl := List.mem_singleton.1 hp'
                  show p.key.data.toList = _; rw [e]; exact heq.symm
              show kl p < q.key.data.toList
              rw [ep, e']
              rcases hq' with hq' | hq'
              · exact hx2.1 _ hq'
              · rw [heq]; exact hy2.1 _ hq'
            · rcases List.mem_append.1 hp with hp | hp
              · obtain ⟨p', hp', e⟩ := hs _ _ _ hp
                rcases hp' with hp' | hp'
                · obtain rfl := List.mem_singleton.1 hp'
                  exact ⟨_, Or.inl List.mem_cons_self, e⟩
                · obtain rfl := List.mem_singleton.1 hp'
                  exact ⟨_, Or.inr List.mem_cons_self, e⟩
              · obtain ⟨q, hq, e⟩ := g2 _ hp
                exact ⟨q, hq.imp (List.mem_cons_of_mem _) (List.mem_cons_of_mem _), e⟩
            · rw [List.mem_append, g3]
              constructor
              · rintro (h | ⟨x', hx', hn', h⟩ | ⟨y', hy', hn', h⟩ | ⟨x', hx', y', hy', he, h⟩)
                · exact Or.inr (Or.inr ⟨x, List.mem_cons_self, y, List.mem_cons_self, heq, h⟩)
                · refine Or.inl ⟨x', List.mem_cons_of_mem _ hx', fun y' hy' => ?_, h⟩
                  rcases List.mem_cons.1 hy' with rfl | hy'
                  · exact fun e => hnx x' hx' e.symm
                  · exact hn' y' hy'
                · refine Or.inr (Or.inl ⟨y', List.mem_cons_of_mem _ hy', fun x' hx' => ?_, h⟩)
                  rcases List.mem_cons.1 hx' with rfl | hx'
                  · exact fun e => hny y' hy' e.symm
                  · exact hn' x' hx'
                · exact Or.inr (Or.inr ⟨x', List.mem_cons_of_mem _ hx', y', List.mem_cons_of_mem _ hy', he, h⟩)
              · rintro (⟨x', hx', hn', h⟩ | ⟨y', hy', hn', h⟩ | ⟨x', hx', y', hy', he, h⟩)
                · rcases List.mem_cons.1 hx' with rfl | hx'
                  · exact absurd heq.symm (hn' y List.mem_cons_self)
                  · exact Or.inr (Or.inl ⟨x', hx', fun y' hy' => hn' y' (List.mem_cons_of_mem _ hy'), h⟩)
                · rcases List.mem_cons.1 hy' with rfl | hy'
                  · exact absurd heq (hn' x List.mem_cons_self)
                  · exact Or.inr (Or.inr (Or.inl ⟨y', hy', fun x' hx' => hn' x' (List.mem_cons_of_mem _ hx'), h⟩))
                · rcases List.mem_cons.1 hx' with rfl | hx'
                  · rcases List.mem_cons.1 hy' with rfl | hy'
                    · exact Or.inl h
                    · exact absurd he.symm (hny y' hy')
                  · rcases List.mem_cons.1 hy' with rfl | hy'
                    · exact absurd he (hnx x' hx')
                    · exact Or.inr (Or.inr (Or.inr ⟨x', hx', y', hy', he, h⟩))
theorem mrg_len (ch : List P → List P → List P) (h1 : ∀ a b, a.length ≤ 1 → b.length ≤ 1 → (ch a b).length ≤ 1) : ∀ (n : Nat) (xs ys : List P), xs.length + ys.length ≤ n → (mrg ch xs ys).length ≤ xs.length + ys.length := by
  intro n
  induction n with
  | zero =>
    intro xs ys hn
    obtain rfl : xs = [] := List.length_eq_zero_iff.1 (by omega)
    obtain rfl : ys = [] := List.length_eq_zero_iff.1 (by omega)
    rw [mrg_00]; exact Nat.zero_le _
  | succ n ih =>
    intro xs ys hn
    cases xs with
    | nil =>
      cases ys with
      | nil => rw [mrg_00]; exact Nat.zero_le _
      | cons y ys =>
        have g := ih [] ys (by simp at hn ⊢; omega)
        have g2 := h1 [] [y] (by simp) (by simp)
        rw [mrg_01, List.length_append]
        simp only [List.length_cons, List.length_nil] at g ⊢
        omega
    | cons x xs =>
      cases ys with
      | nil =>
        have g := ih xs [] (by simp at hn ⊢; omega)
        have g2 := h1 [x] [] (by simp) (by simp)
        rw [mrg_10, List.length_append]
        simp only [List.length_cons, List.length_nil] at g ⊢
        omega
      | cons y ys =>
        by_cases hlt : x.key.data.toList < y.key.data.toList
        · have g := ih xs (y :: ys) (by simp at hn ⊢; omega)
          have g2 := h1 [x] [] (by simp) (by simp)
          rw [mrg_lt ch xs ys hlt, List.length_append]
          simp only [List.length_cons] at g ⊢
          omega
        · by_cases hgt : y.key.data.toList < x.key.data.toList
          · have g := ih (x :: xs) ys (by simp at hn ⊢; omega)
            have g2 := h1 [] [y] (by simp) (by simp)
            rw [mrg_gt ch xs ys hlt hgt, List.length_append]
            simp only [List.length_cons] at g ⊢
            omega
          · have g := ih xs ys (by simp at hn ⊢; omega)
            have g2 := h1 [x] [y] (by simp) (by simp)
            rw [mrg_eq ch xs ys hlt hgt, List.length_append]
            simp only [List.length_cons] at g ⊢
            omega
theorem chA_len (a b : List P) (ha : a.length ≤ 1) (hb : b.length ≤ 1) : (chA a b).length ≤ 1 := by
  unfold chA
  split
  · exact ha
  · split <;> simp
theorem chU_len (a b : List P) (ha : a.length ≤ 1) (hb : b.length ≤ 1) : (chU a b).length ≤ 1 := by
  unfold chU
  split
  · exact hb
  · simp
theorem chD_len (a b : List P) (ha : a.length ≤ 1) (hb : b.length ≤ 1) : (chD a b).length ≤ 1 := by
  unfold chD
  split
  · split <;> simp
  · split
    · simp
    · split <;> simp
/-- a pair that is chosen has the key of one of those offered, and no longer string -/
def Src (ch : List P → List P → List P) : Prop := ∀ a b p, p ∈ ch a b → ∃ q, (q ∈ a ∨ q ∈ b) ∧ p.key = q.key ∧ p.s.size ≤ q.s.size
theorem Src.same {ch : List P → List P → List P} (h : Src ch) : Same1 ch := fun a b p hp => by
  obtain ⟨q, h1, h2, _⟩ := h a b p hp
  exact ⟨q, h1, h2⟩
theorem chA_src : Src chA := by
  intro a b p hp
  unfold chA at hp
  split at hp
  · exact ⟨p, Or.inl hp, rfl, Nat.le_refl _⟩
  · split at hp
    · cases hp
    · obtain rfl := List.mem_singleton.1 hp
      exact ⟨_, Or.inr List.mem_cons_self, rfl, Nat.le_refl _⟩
theorem chU_src : Src chU := by
  intro a b p hp
  unfold chU at hp
  split at hp
  · exact ⟨p, Or.inr hp, rfl, Nat.le_refl _⟩
  · obtain rfl := List.mem_singleton.1 hp
    exact ⟨_, Or.inl List.mem_cons_self, rfl, Nat.le_refl _⟩
theorem chD_src : Src chD := by
  intro a b p hp
  unfold chD at hp
  split at hp
  · split at hp
    · cases hp
    · obtain rfl := List.mem_singleton.1 hp
      exact ⟨_, Or.inl List.mem_cons_self, rfl, Nat.zero_le _⟩
  · split at hp
    · obtain rfl := List.mem_singleton.1 hp
      exact ⟨_, Or.inr List.mem_cons_self, rfl, Nat.le_refl _⟩
    · split at hp
      · cases hp
      · obtain rfl := List.mem_singleton.1 hp
        exact ⟨_, Or.inr List.mem_cons_self, rfl, Nat.le_refl _⟩
theorem mrg_fitz {ch : List P → List P → List P} (h1 : ∀ a b, a.length ≤ 1 → b.length ≤ 1 → (ch a b).length ≤ 1) (hs : Src ch) {xs ys : List P} (hx : upP xs) (hy : upP ys) (fx : Fitz xs) (fy : Fitz ys) (hl : (mrg ch xs ys).length ≤ 2932031007402) : Fitz (mrg ch xs ys) := by
  obtain ⟨_, _, g⟩ := mrg_all ch h1 hs.same _ xs ys (Nat.le_refl _) hx hy
  refine ⟨hl, fun p hp => ?_⟩
  have key : ∀ q, q ∈ xs ∨ q ∈ ys → p.key = q.key → p.s.size ≤ q.s.size → p.key.size ≤ 140737488355328 ∧ p.s.size ≤ 140737488355328 := by
    intro q hq e hs
    have := hq.elim (fx.sz q) (fy.sz q)
    rw [e]; omega
  rcases (g p).1 hp with ⟨x, hx, _, h⟩ | ⟨y, hy, _, h⟩ | ⟨x, hx, y, hy, _, h⟩
  · obtain ⟨q, hq, e, hs⟩ := hs _ _ _ h
    rcases hq with hq | hq
    · obtain rfl := List.mem_singleton.1 hq; exact key _ (Or.inl hx) e hs
    · cases hq
  · obtain ⟨q, hq, e, hs⟩ := hs _ _ _ h
    rcases hq with hq | hq
    · cases hq
    · obtain rfl := List.mem_singleton.1 hq; exact key _ (Or.inr hy) e hs
  · obtain ⟨q, hq, e, hs⟩ := hs _ _ _ h
    rcases hq with hq | hq
    · obtain rfl := List.mem_singleton.1 hq; exact key _ (Or.inl hx) e hs
    · obtain rfl := List.mem_singleton.1 hq; exact key _ (Or.inr hy) e hs

/-! ### Apply, Union, Diff as merges -/

theorem pr_inj {p q : P} (h : p.pr = q.pr) : p = q := by
  cases p; cases q
  unfold P.pr at h
  obtain ⟨h1, h2⟩ := Prod.mk.inj h
  simp only [V.Val.mk.injEq] at h2
  obtain ⟨h3, h4, h5⟩ := h2
  congr 1
  · exact ByteArray.ext (Array.ext' h1)
  · exact ByteArray.ext (Array.ext' h5)
theorem prs_injO {xs ys : List P} (h : prs xs = prs ys) : xs = ys := (List.map_inj_right (fun _ _ => pr_inj)).1 h
theorem mem_pr {xs : List P} {p : Pr} : p ∈ prs xs ↔ ∃ x ∈ xs, x.pr = p := by unfold prs; exact List.mem_map
theorem has_no {ys : List P} {k : List UInt8} : has (prs ys) k = false ↔ ∀ y ∈ ys, kl y ≠ k := by
  constructor
  · intro h y hy e
    rw [has_iff.2 ⟨y.pr, mem_pr.2 ⟨y, hy, rfl⟩, e⟩] at h
    cases h
  · intro h
    cases hv : has (prs ys) k
    · rfl
    · obtain ⟨p, hp, e⟩ := has_iff.1 hv
      obtain ⟨y, hy, rfl⟩ := mem_pr.1 hp
      exact absurd e (h y hy)
theorem mrg_app {xs ys : List P} (hx : upP xs) (hy : upP ys) : mrg chA xs ys = appP xs ys := by
  obtain ⟨g1, _, g3⟩ := mrg_all chA chA_len chA_src.same _ xs ys (Nat.le_refl _) hx hy
  refine prs_injO ?_
  rw [appP_prs]
  refine app_is (up_prs.2 hx) (up_prs.2 hy) (up_prs.2 g1) fun p => ?_
  rw [mem_pr]
  constructor
  · rintro ⟨q, hq, rfl⟩
    rcases (g3 q).1 hq with ⟨x, h1, h2, h⟩ | ⟨y, h1, h2, h⟩ | ⟨x, h1, y, h2, he, h⟩
    · obtain rfl := List.mem_singleton.1 h
      exact Or.inl ⟨mem_pr.2 ⟨_, h1, rfl⟩, has_no.2 h2⟩
    · change q ∈ (if y.k = 0 then [] else [y]) at h
      split at h
      · cases h
      · rename_i hk
        obtain rfl := List.mem_singleton.1 h
        exact Or.inr ⟨mem_pr.2 ⟨_, h1, rfl⟩, hk⟩
    · change q ∈ (if y.k = 0 then [] else [y]) at h
      split at h
      · cases h
      · rename_i hk
        obtain rfl := List.mem_singleton.1 h
        exact Or.inr ⟨mem_pr.2 ⟨_, h2, rfl⟩, hk⟩
  · rintro (⟨h1, h2⟩ | ⟨h1, h2⟩)
    · obtain ⟨x, hx, rfl⟩ := mem_pr.1 h1
      exact ⟨x, (g3 x).2 (Or.inl ⟨x, hx, has_no.1 h2, List.mem_cons_self⟩), rfl⟩
    · obtain ⟨y, hy, rfl⟩ := mem_pr.1 h1
      refine ⟨y, (g3 y).2 ?_, rfl⟩
      have hm : ∀ o, y ∈ chA o [y] := fun o => by
        show y ∈ (if y.k = 0 then [] else [y])
        rw [if_neg (show ¬ y.k = 0 from h2)]; exact List.mem_cons_self
      by_cases hh : ∃ x ∈ xs, kl x = kl y
      · obtain ⟨x, hx, e⟩ := hh
        exact Or.inr (Or.inr ⟨x, hx, y, hy, e, hm _⟩)
      · exact Or.inr (Or.inl ⟨y, hy, fun x hx e => hh ⟨x, hx, e⟩, hm _⟩)
theorem mrg_uni {xs ys : List P} (hx : upP xs) (hy : upP ys) (hd : ∀ x ∈ xs, ∀ y ∈ ys, kl x ≠ kl y) (hv : ∀ y ∈ ys, y.k ≠ 0) : mrg chU xs ys = appP xs ys := by
  obtain ⟨g1, _, g3⟩ := mrg_all chU chU_len chU_src.same _ xs ys (Nat.le_refl _) hx hy
  refine prs_injO ?_
  rw [appP_prs]
  refine app_is (up_prs.2 hx) (up_prs.2 hy) (up_prs.2 g1) fun p => ?_
  rw [mem_pr]
  constructor
  · rintro ⟨q, hq, rfl⟩
    rcases (g3 q).1 hq with ⟨x, h1, h2, h⟩ | ⟨y, h1, h2, h⟩ | ⟨x, h1, y, h2, he, h⟩
    · obtain rfl := List.mem_singleton.1 h
      exact Or.inl ⟨mem_pr.2 ⟨_, h1, rfl⟩, has_no.2 h2⟩
    · obtain rfl := List.mem_singleton.1 h
      exact Or.inr ⟨mem_pr.2 ⟨_, h1, rfl⟩, hv _ h1⟩
    · exact absurd he (hd x h1 y h2)
  · rintro (⟨h1, h2⟩ | ⟨h1, h2⟩)
    · obtain ⟨x, hx, rfl⟩ := mem_pr.1 h1
      exact ⟨x, (g3 x).2 (Or.inl ⟨x, hx, has_no.1 h2, List.mem_cons_self⟩), rfl⟩
    · obtain ⟨y, hy, rfl⟩ := mem_pr.1 h1
      exact ⟨y, (g3 y).2 (Or.inr (Or.inl ⟨y, hy, fun x hx => hd x hx y hy, List.mem_cons_self⟩)), rfl⟩
theorem get_no {xs : List P} {k : List UInt8} (h : ∀ x ∈ xs, kl x ≠ k) : get (prs xs) k = nil0 := get_not (has_no.2 h)
theorem mrg_dif {xs ys : List P} (hx : upP xs) (hy : upP ys) (hv : ∀ y ∈ ys, y.k ≠ 0) : mrg chD xs ys = difP xs ys := by
  obtain ⟨g1, _, g3⟩ := mrg_all chD chD_len chD_src.same _ xs ys (Nat.le_refl _) hx hy
  refine prs_injO ?_
  rw [difP_prs]
  have hne : ∀ y ∈ ys, nil0 ≠ y.pr.2 := fun y hy e => hv y hy (congrArg V.Val.k e).symm
  refine dif_is (up_prs.2 hx) (up_prs.2 hy) (up_prs.2 g1) fun p => ?_
  rw [mem_pr]
  constructor
  · rintro ⟨q, hq, rfl⟩
    rcases (g3 q).1 hq with ⟨x, h1, h2, h⟩ | ⟨y, h1, h2, h⟩ | ⟨x, h1, y, h2, he, h⟩
    · obtain rfl := List.mem_singleton.1 h
      exact Or.inl ⟨rfl, has_iff.2 ⟨_, mem_pr.2 ⟨x, h1, rfl⟩, rfl⟩, has_no.2 h2⟩
    · obtain rfl := List.mem_singleton.1 h
      refine Or.inr ⟨mem_pr.2 ⟨_, h1, rfl⟩, ?_⟩
      show get (prs xs) (kl q) ≠ _
      rw [get_no h2]; exact hne _ h1
    · change q ∈ (if x.pr = y.pr then [] else [y]) at h
      split at h
      · cases h
      · rename_i hk
        obtain rfl := List.mem_singleton.1 h
        refine Or.inr ⟨mem_pr.2 ⟨_, h2, rfl⟩, fun e => hk ?_⟩
        have e2 := get_mem (up_prs.2 hx) (mem_pr.2 ⟨x, h1, rfl⟩)
        have e3 : get (prs xs) (kl x) = q.pr.2 := by rw [he]; exact e
        rw [show (x.pr).1 = kl x from rfl, e3] at e2
        exact Prod.ext he e2.symm
  · rintro (⟨h1, h2, h3⟩ | ⟨h1, h2⟩)
    · obtain ⟨p', hp, e⟩ := has_iff.1 h2
      obtain ⟨x, hx, rfl⟩ := mem_pr.1 hp
      refine ⟨⟨x.key, 0, 0, ⟨#[]⟩⟩, (g3 _).2 (Or.inl ⟨x, hx, ?_, List.mem_cons_self⟩), Prod.ext e h1.symm⟩
      rw [← e] at h3
      exact has_no.1 h3
    · obtain ⟨y, hy, rfl⟩ := mem_pr.1 h1
      refine ⟨y, (g3 y).2 ?_, rfl⟩
      by_cases hh : ∃ x ∈ xs, kl x = kl y
      · obtain ⟨x, h3, e⟩ := hh
        refine Or.inr (Or.inr ⟨x, h3, y, hy, e, ?_⟩)
        show y ∈ (if x.pr = y.pr then [] else [y])
        rw [if_neg]
        · exact List.mem_cons_self
        · intro e2
          refine h2 ?_
          have := get_mem (up_prs.2 hx) (mem_pr.2 ⟨x, h3, rfl⟩)
          rw [e2] at this
          exact this
      · exact Or.inr (Or.inl ⟨y, hy, fun x hx e => hh ⟨x, hx, e⟩, List.mem_cons_self⟩)

/-! ### whether a key is common -/

def chF (a b : List P) : List P := match a, b with | p :: _, _ :: _ => [p] | _, _ => []
def fl (xs ys : List P) : Bool := !(mrg chF xs ys).isEmpty
theorem chF_len (a b : List P) (_ : a.length ≤ 1) (_ : b.length ≤ 1) : (chF a b).length ≤ 1 := by unfold chF; split <;> simp
theorem chF_same : Same1 chF := by
  intro a b p hp
  unfold chF at hp
  split at hp
  · obtain rfl := List.mem_singleton.1 hp
    exact ⟨_, Or.inl List.mem_cons_self, rfl⟩
  · cases hp
theorem fl_iff {xs ys : List P} (hx : upP xs) (hy : upP ys) : fl xs ys = true ↔ ∃ x ∈ xs, ∃ y ∈ ys, kl x = kl y := by
  obtain ⟨_, _, g3⟩ := mrg_all chF chF_len chF_same _ xs ys (Nat.le_refl _) hx hy
  unfold fl
  rw [Bool.not_eq_true', List.isEmpty_eq_false_iff_exists_mem]
  constructor
  · rintro ⟨q, hq⟩
    rcases (g3 q).1 hq with ⟨x, h1, h2, h⟩ | ⟨y, h1, h2, h⟩ | ⟨x, h1, y, h2, he, h⟩
    · cases h
    · cases h
    · exact ⟨x, h1, y, h2, he⟩
  · rintro ⟨x, h1, y, h2, he⟩
    exact ⟨x, (g3 x).2 (Or.inr (Or.inr ⟨x, h1, y, h2, he, List.mem_cons_self⟩))⟩
theorem fl_00 : fl [] [] = false := by unfold fl; rw [mrg_00]; rfl
theorem fl_10 (x : P) (xs : List P) : fl (x :: xs) [] = fl xs [] := by unfold fl; rw [mrg_10]; rfl
theorem fl_01 (y : P) (ys : List P) : fl [] (y :: ys) = fl [] ys := by unfold fl; rw [mrg_01]; rfl
theorem fl_lt {x y : P} (xs ys : List P) (h : x.key.data.toList < y.key.data.toList) : fl (x :: xs) (y :: ys) = fl xs (y :: ys) := by unfold fl; rw [mrg_lt chF xs ys h]; rfl
theorem fl_gt {x y : P} (xs ys : List P) (h : ¬ x.key.data.toList < y.key.data.toList) (h2 : y.key.data.toList < x.key.data.toList) : fl (x :: xs) (y :: ys) = fl (x :: xs) ys := by unfold fl; rw [mrg_gt chF xs ys h h2]; rfl
theorem fl_eq {x y : P} (xs ys : List P) (h : ¬ x.key.data.toList < y.key.data.toList) (h2 : ¬ y.key.data.toList < x.key.data.toList) : fl (x :: xs) (y :: ys) = true := by unfold fl; rw [mrg_eq chF xs ys h h2]; rfl
end Go.Proofs.Ytieloegadhgipaa.S
