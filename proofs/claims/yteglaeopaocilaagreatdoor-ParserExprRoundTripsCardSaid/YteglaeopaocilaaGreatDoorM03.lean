/-
  Plain mathematics of layer 10, without the program: every list of tokens is read to a tree or to an error: the grammar's functions without fuel, for expressions.
  Plain mathematics of layer 10, without the program: the grammar's functions without fuel, for statements, blocks and procedures.
  Plain mathematics of layer 10, without the program: the grammar's functions without fuel, for parameters and procedures.
-/
import Derived.Test.YteglaeopaocilaaGreatDoorM00
namespace Go.Proofs.YteglaeopaocilaaGreatDoor.P
open L (Str Tok)
open A

def R.to {α β : Type} (q : R α) (k : α → T → R β) : R β := match q with
  | .ok a r => k a r
  | .no r x => .no r x
/-- what is left is an end of the tokens, and with a tree there are fewer of them -/
def Sf {α : Type} (l : T) : R α → Prop
  | .ok _ r => r <:+ l ∧ r.length < l.length
  | .no r x => r <:+ l ∧ (x = 2 ∨ x = 5 ∨ x = 6)
theorem er_w (l : T) : wrong l = 2 ∨ wrong l = 5 ∨ wrong l = 6 := by
  unfold wrong
  split
  · exact Or.inr (Or.inr rfl)
  · exact Or.inr (Or.inl rfl)
theorem sf_w {α : Type} {l r : T} (h : r <:+ l) : Sf (α := α) l (.no r (wrong r)) := ⟨h, er_w r⟩
theorem sf_2 {α : Type} {l r : T} (h : r <:+ l) : Sf (α := α) l (.no r 2) := ⟨h, Or.inl rfl⟩
theorem tail_sf (l : T) : l.tail <:+ l := List.tail_suffix l
theorem Sf.up {α : Type} {l m : T} {q : R α} (h : Sf m q) (hs : m <:+ l) : Sf l q := by
  cases q with
  | ok a r => exact ⟨h.1.trans hs, Nat.lt_of_lt_of_le h.2 hs.length_le⟩
  | no r x => exact ⟨h.1.trans hs, h.2⟩
theorem Sf.to {α β : Type} {l : T} {q : R α} {k : α → T → R β} (h : Sf l q) (hk : ∀ a r, q = .ok a r → Sf r (k a r) ∨ Sf l (k a r)) : Sf l (q.to k) := by
  cases q with
  | no r x => exact h
  | ok a r =>
    rcases hk a r rfl with h2 | h2
    · exact h2.up h.1
    · exact h2
theorem isW_ne {l : T} {w : Str} (h : isW l w = true) : l ≠ [] := by
  rintro rfl
  cases h
theorem tail_lt {l : T} (h : l ≠ []) : l.tail.length < l.length := by
  cases l with
  | nil => exact absurd rfl h
  | cons t r => simp
theorem findW_nil (tab : List (Str × Int)) : findW tab [] = 0 := by
  unfold findW
  have : tab.find? (fun p => isW [] p.1) = none := List.find?_eq_none.2 fun p _ => by simp [isW]
  rw [this]
theorem pre_ne {l : T} {lev : Nat} (h : P.pre l lev ≠ 0) : l ≠ [] := by
  rintro rfl
  exact h (by simp [P.pre, isW])
theorem bin_ne {l : T} {lev : Nat} (h : bin l lev ≠ 0) : l ≠ [] := by
  rintro rfl
  exact h (by unfold bin sgn; rw [findW_nil]; simp)
theorem call_ne {l : T} (h : callOp l ≠ 0) : l ≠ [] := by
  rintro rfl
  exact h (findW_nil _)
theorem leaf_ne {l : T} {e : Ex} (h : P.leaf l = some e) : l ≠ [] := by
  rintro rfl
  cases h

/-! ### the rules that errors need -/

theorem PX.no {lev n : Nat} {l r : T} {x : Int} (h9 : lev ≠ 9) (ho : P.pre l lev = 0) (h : PX (lev + 1) n l (.no r x)) : PX lev n l (.no r x) := by
  obtain ⟨F, h⟩ := h
  refine ⟨F + 1, fun f hf => ?_⟩
  obtain ⟨k, rfl, hk⟩ := succ_of hf
  rw [pX, if_neg h9, ho, if_neg (fun x => x rfl), h k hk]
theorem PX.lim {lev : Nat} {l : T} (h9 : lev ≠ 9) (h0 : P.pre l lev ≠ 0) : PX lev 24 l (.no l 2) := by
  refine ⟨1, fun f hf => ?_⟩
  obtain ⟨k, rfl, hk⟩ := succ_of hf
  rw [pX, if_neg h9, if_pos h0, if_pos rfl]
theorem PX.preTo {lev n : Nat} {l : T} {o : Int} {q : R Ex} (h9 : lev ≠ 9) (ho : P.pre l lev = o) (h0 : o ≠ 0) (hn : n ≠ 24) (h : PX lev (n + 1) l.tail q) : PX lev n l (q.to fun e r => .ok (ap o [e]) r) := by
  obtain ⟨F, h⟩ := h
  refine ⟨F + 1, fun f hf => ?_⟩
  obtain ⟨k, rfl, hk⟩ := succ_of hf
  rw [pX, if_neg h9, ho, if_pos h0, if_neg hn, h k hk]
  cases q <;> rfl
theorem PL.no {lev n : Nat} {e : Ex} {l r : T} {x : Int} (h0 : bin l lev ≠ 0) (h : PX (lev + 1) n l.tail (.no r x)) : PL lev n e l (.no r x) := by
  obtain ⟨F, h⟩ := h
  refine ⟨F + 1, fun f hf => ?_⟩
  obtain ⟨k, rfl, hk⟩ := succ_of hf
  rw [pL, if_neg h0, h k hk]
def closeE (e : Ex) (r : T) : R Ex := if isW r [41] = true then .ok e r.tail else .no r (wrong r)
theorem PI.to {n : Nat} {l : T} {q : R Ex} (h1 : isW l [40] = true) (h : PX 1 n l.tail q) : PI n l (q.to closeE) := by
  obtain ⟨F, h⟩ := h
  refine ⟨F + 1, fun f hf => ?_⟩
  obtain ⟨k, rfl, hk⟩ := succ_of hf
  rw [pI, if_pos h1, h k hk]
  cases q <;> rfl
theorem PI.bad {n : Nat} {l : T} (h1 : isW l [40] = false) : PI n l (.no l (wrong l)) := by
  refine ⟨1, fun f hf => ?_⟩
  obtain ⟨k, rfl, hk⟩ := succ_of hf
  rw [pI, if_neg (by rw [h1]; decide)]
def nullE (o : Int) (l : T) : R Ex := if isW l [40] = true then (if isW l.tail [41] = true then .ok (ap o []) l.tail.tail else .no l.tail (wrong l.tail)) else .no l (wrong l)
theorem PU.null {n : Nat} {l : T} (h : P.leaf l = none) (h25 : 25 ≤ callOp l) : PU n l (nullE (callOp l) l.tail) := by
  refine ⟨1, fun f hf => ?_⟩
  obtain ⟨k, rfl, hk⟩ := succ_of hf
  rw [pU, h]
  simp only
  rw [if_pos h25]
  rfl
theorem PU.bad {n : Nat} {l : T} (h : P.leaf l = none) (h0 : callOp l = 0) (hp : isW l [40] = false) : PU n l (.no l (wrong l)) := by
  refine ⟨1, fun f hf => ?_⟩
  obtain ⟨k, rfl, hk⟩ := succ_of hf
  rw [pU, h]
  simp only
  rw [if_neg (by omega), if_pos ⟨h0, hp⟩]
theorem PU.lim {l : T} (h : P.leaf l = none) (h25 : ¬ 25 ≤ callOp l) (hp : ¬ (callOp l = 0 ∧ isW l [40] = false)) : PU 24 l (.no l 2) := by
  refine ⟨1, fun f hf => ?_⟩
  obtain ⟨k, rfl, hk⟩ := succ_of hf
  rw [pU, h]
  simp only
  rw [if_neg h25, if_neg hp, if_pos trivial]
theorem PU.callTo {n : Nat} {l : T} {o : Int} {q : R Ex} (h : P.leaf l = none) (ho : callOp l = o) (h0 : o ≠ 0) (h25 : o < 25) (hn : n ≠ 24) (h2 : PI (n + 1) l.tail q) : PU n l (q.to fun e r => .ok (ap o [e]) r) := by
  obtain ⟨F, h2⟩ := h2
  refine ⟨F + 1, fun f hf => ?_⟩
  obtain ⟨k, rfl, hk⟩ := succ_of hf
  rw [pU, h, ho]
  simp only
  rw [if_neg (by omega), if_neg (fun x => h0 x.1), if_neg hn, if_neg h0, h2 k hk]
  cases q <;> rfl
theorem PL.unique {lev n : Nat} {e : Ex} {l : T} {r q : R Ex} (h : PL lev n e l r) (h2 : PL lev n e l q) : r = q := by
  obtain ⟨F, h⟩ := h
  obtain ⟨G, h2⟩ := h2
  rw [← h (F + G) (by omega), h2 (F + G) (by omega)]
theorem PI.unique {n : Nat} {l : T} {r q : R Ex} (h : PI n l r) (h2 : PI n l q) : r = q := by
  obtain ⟨F, h⟩ := h
  obtain ⟨G, h2⟩ := h2
  rw [← h (F + G) (by omega), h2 (F + G) (by omega)]
theorem PU.unique {n : Nat} {l : T} {r q : R Ex} (h : PU n l r) (h2 : PU n l q) : r = q := by
  obtain ⟨F, h⟩ := h
  obtain ⟨G, h2⟩ := h2
  rw [← h (F + G) (by omega), h2 (F + G) (by omega)]

/-! ### every list is read -/

section
variable (N : Nat) (ih : ∀ l : T, l.length < N → ∀ lev n, lev ≤ 9 → ∃ q, PX lev n l q ∧ Sf l q)
include ih
theorem PL.some (lev n : Nat) (hl : lev ≤ 8) : ∀ (M : Nat) (l : T) (e : Ex), l.length ≤ M → M < N → ∃ q, PL lev n e l q ∧ (Sf l q ∨ q = .ok e l) := by
  intro M
  induction M with
  | zero =>
    intro l e h _
    have h0 : bin l lev = 0 := by
      rcases Decidable.em (bin l lev = 0) with h0 | h0
      · exact h0
      · have := tail_lt (bin_ne h0)
        omega
    exact ⟨_, PL.stop h0, Or.inr rfl⟩
  | succ M ihM =>
    intro l e h hM
    rcases Decidable.em (bin l lev = 0) with h0 | h0
    · exact ⟨_, PL.stop h0, Or.inr rfl⟩
    have ht := tail_lt (bin_ne h0)
    obtain ⟨q, hq, hs⟩ := ih l.tail (by omega) (lev + 1) n (by omega)
    cases q with
    | no r x => exact ⟨_, PL.no h0 hq, Or.inl (hs.up (tail_sf l))⟩
    | ok e2 r =>
      rcases Decidable.em (lev = 4) with h4 | h4
      · subst h4
        exact ⟨_, PL.four rfl h0 hq, Or.inl ⟨hs.1.trans (tail_sf l), by have := hs.2; omega⟩⟩
      obtain ⟨q2, hq2, hs2⟩ := ihM r (ap (bin l lev) [e, e2]) (by have := hs.2; omega) (by omega)
      refine ⟨q2, PL.go rfl h0 h4 hq hq2, Or.inl ?_⟩
      rcases hs2 with hs2 | rfl
      · exact hs2.up (hs.1.trans (tail_sf l))
      · exact ⟨hs.1.trans (tail_sf l), by have := hs.2; omega⟩
theorem PI.some (l : T) (n : Nat) (h : l.length ≤ N) : ∃ q, PI n l q ∧ Sf l q := by
  cases h1 : isW l [40]
  · exact ⟨_, PI.bad h1, sf_w (List.suffix_refl l)⟩
  have ht := tail_lt (isW_ne h1)
  obtain ⟨q, hq, hs⟩ := ih l.tail (by omega) 1 n (by decide)
  refine ⟨_, PI.to h1 hq, Sf.to (hs.up (tail_sf l)) fun e r he => ?_⟩
  subst he
  unfold closeE
  split
  · rename_i h2
    exact Or.inl ⟨tail_sf r, tail_lt (isW_ne h2)⟩
  · exact Or.inl (sf_w (List.suffix_refl r))
theorem PU.some (l : T) (n : Nat) (h : l.length ≤ N) : ∃ q, PU n l q ∧ Sf l q := by
  cases hl : P.leaf l with
  | some e => exact ⟨_, PU.leaf hl, tail_sf l, tail_lt (leaf_ne hl)⟩
  | none =>
    rcases Decidable.em (25 ≤ callOp l) with h25 | h25
    · refine ⟨_, PU.null hl h25, ?_⟩
      have hn := tail_lt (call_ne (l := l) (by omega))
      unfold nullE
      split
      · rename_i g1
        split
        · rename_i g2
          refine ⟨((tail_sf _).trans (tail_sf _)).trans (tail_sf _), ?_⟩
          have := tail_lt (isW_ne g1)
          have := tail_lt (isW_ne g2)
          omega
        · exact sf_w ((tail_sf _).trans (tail_sf _))
      · exact sf_w (tail_sf _)
    rcases Decidable.em (callOp l = 0 ∧ isW l [40] = false) with hb | hb
    · exact ⟨_, PU.bad hl hb.1 hb.2, sf_w (List.suffix_refl l)⟩
    rcases Decidable.em (n = 24) with rfl | hn
    · exact ⟨_, PU.lim hl h25 hb, sf_2 (List.suffix_refl l)⟩
    rcases Decidable.em (callOp l = 0) with h0 | h0
    · obtain ⟨q, hq, hs⟩ := PI.some N ih l (n + 1) h
      exact ⟨q, PU.par hl h0 (by cases h1 : isW l [40]; exact absurd ⟨h0, h1⟩ hb; rfl) hn hq, hs⟩
    · obtain ⟨q, hq, hs⟩ := PI.some N ih l.tail (n + 1) (by have := tail_lt (call_ne h0); omega)
      refine ⟨_, PU.callTo hl rfl h0 (by omega) hn hq, Sf.to (hs.up (tail_sf l)) fun e r he => ?_⟩
      subst he
      exact Or.inr ⟨hs.1.trans (tail_sf l), Nat.lt_of_lt_of_le hs.2 (tail_sf l).length_le⟩
theorem PX.some (l : T) (h : l.length ≤ N) : ∀ (d lev n : Nat), lev + d = 9 → ∃ q, PX lev n l q ∧ Sf l q := by
  intro d
  induction d with
  | zero =>
    intro lev n hd
    obtain rfl : lev = 9 := by omega
    obtain ⟨q, hq, hs⟩ := PU.some N ih l n h
    exact ⟨q, PX.unit hq, hs⟩
  | succ d ihd =>
    intro lev n hd
    rcases Decidable.em (P.pre l lev = 0) with h0 | h0
    · obtain ⟨q, hq, hs⟩ := ihd (lev + 1) n (by omega)
      cases q with
      | no r x => exact ⟨_, PX.no (by omega) h0 hq, hs⟩
      | ok e r =>
        obtain ⟨q2, hq2, hs2⟩ := PL.some N ih lev n (by omega) r.length r e (Nat.le_refl _) (Nat.lt_of_lt_of_le hs.2 h)
        refine ⟨q2, PX.down (by omega) h0 hq hq2, ?_⟩
        rcases hs2 with hs2 | rfl
        · exact hs2.up hs.1
        · exact hs
    · rcases Decidable.em (n = 24) with rfl | hn
      · exact ⟨_, PX.lim (by omega) h0, sf_2 (List.suffix_refl l)⟩
      have ht := tail_lt (pre_ne h0)
      obtain ⟨q, hq, hs⟩ := ih l.tail (by omega) lev (n + 1) (by omega)
      refine ⟨_, PX.preTo (by omega) rfl h0 hn hq, Sf.to (hs.up (tail_sf l)) fun e r he => ?_⟩
      subst he
      exact Or.inr ⟨hs.1.trans (tail_sf l), Nat.lt_of_lt_of_le hs.2 (tail_sf l).length_le⟩
end
theorem PX.lt : ∀ (N : Nat) (l : T), l.length < N → ∀ lev n, lev ≤ 9 → ∃ q, PX lev n l q ∧ Sf l q := by
  intro N
  induction N with
  | zero => intro l h; omega
  | succ N ih => exact fun l h lev n hl => PX.some N ih l (by omega) (9 - lev) lev n (by omega)
theorem PX.all (lev n : Nat) (l : T) (hl : lev ≤ 9) : ∃ q, PX lev n l q ∧ Sf l q := PX.lt (l.length + 1) l (Nat.lt_succ_self _) lev n hl
theorem PL.all (lev n : Nat) (e : Ex) (l : T) (hl : lev ≤ 8) : ∃ q, PL lev n e l q ∧ (Sf l q ∨ q = .ok e l) := PL.some (l.length + 1) (PX.lt _) lev n hl l.length l e (Nat.le_refl _) (Nat.lt_succ_self _)
theorem PI.all (n : Nat) (l : T) : ∃ q, PI n l q ∧ Sf l q := PI.some l.length (PX.lt _) l n (Nat.le_refl _)
theorem PU.all (n : Nat) (l : T) : ∃ q, PU n l q ∧ Sf l q := PU.some l.length (PX.lt _) l n (Nat.le_refl _)

/-! ### the grammar's functions -/

/-- what a symbol of level lev, nested n times, yields -/
noncomputable def gX (lev n : Nat) (l : T) : R Ex := if h : lev ≤ 9 then (PX.all lev n l h).choose else .no l 0
noncomputable def gL (lev n : Nat) (e : Ex) (l : T) : R Ex := if h : lev ≤ 8 then (PL.all lev n e l h).choose else .no l 0
noncomputable def gI (n : Nat) (l : T) : R Ex := (PI.all n l).choose
noncomputable def gU (n : Nat) (l : T) : R Ex := (PU.all n l).choose
theorem gX_is {lev n : Nat} {l : T} (h : lev ≤ 9) : PX lev n l (gX lev n l) ∧ Sf l (gX lev n l) := by
  unfold gX
  rw [dif_pos h]
  exact (PX.all lev n l h).choose_spec
theorem gL_is {lev n : Nat} {e : Ex} {l : T} (h : lev ≤ 8) : PL lev n e l (gL lev n e l) ∧ (Sf l (gL lev n e l) ∨ gL lev n e l = .ok e l) := by
  unfold gL
  rw [dif_pos h]
  exact (PL.all lev n e l h).choose_spec
theorem gI_is (n : Nat) (l : T) : PI n l (gI n l) ∧ Sf l (gI n l) := (PI.all n l).choose_spec
theorem gU_is (n : Nat) (l : T) : PU n l (gU n l) ∧ Sf l (gU n l) := (PU.all n l).choose_spec
theorem gX_eq {lev n : Nat} {l : T} {q : R Ex} (h : lev ≤ 9) (hq : PX lev n l q) : gX lev n l = q := (gX_is h).1.unique hq
theorem gL_eq {lev n : Nat} {e : Ex} {l : T} {q : R Ex} (h : lev ≤ 8) (hq : PL lev n e l q) : gL lev n e l = q := (gL_is h).1.unique hq
theorem gI_eq {n : Nat} {l : T} {q : R Ex} (hq : PI n l q) : gI n l = q := (gI_is n l).1.unique hq
theorem gU_eq {n : Nat} {l : T} {q : R Ex} (hq : PU n l q) : gU n l = q := (gU_is n l).1.unique hq
theorem gX_9 (n : Nat) (l : T) : gX 9 n l = gU n l := gX_eq (by decide) (PX.unit (gU_is n l).1)
theorem gX_pre {lev n : Nat} {l : T} (h : lev ≤ 8) (h0 : P.pre l lev ≠ 0) : gX lev n l = if n = 24 then .no l 2 else (gX lev (n + 1) l.tail).to fun e r => .ok (ap (P.pre l lev) [e]) r := by
  refine gX_eq (by omega) ?_
  split
  · rename_i hn
    subst hn
    exact PX.lim (by omega) h0
  · rename_i hn
    exact PX.preTo (by omega) rfl h0 hn (gX_is (by omega)).1
theorem gX_down {lev n : Nat} {l : T} (h : lev ≤ 8) (h0 : P.pre l lev = 0) : gX lev n l = (gX (lev + 1) n l).to (gL lev n) := by
  have hq := (gX_is (lev := lev + 1) (n := n) (l := l) (by omega)).1
  refine gX_eq (by omega) ?_
  revert hq
  cases gX (lev + 1) n l with
  | no r x => exact fun hq => PX.no (by omega) h0 hq
  | ok e r => exact fun hq => PX.down (by omega) h0 hq (gL_is h).1
theorem gL_step {lev n : Nat} {e : Ex} {l : T} (h : lev ≤ 8) : gL lev n e l = if bin l lev = 0 then .ok e l else (gX (lev + 1) n l.tail).to fun e2 r => if lev = 4 then .ok (ap (bin l lev) [e, e2]) r else gL lev n (ap (bin l lev) [e, e2]) r := by
  refine gL_eq h ?_
  split
  · rename_i h0
    exact PL.stop h0
  · rename_i h0
    have hq := (gX_is (lev := lev + 1) (n := n) (l := l.tail) (by omega)).1
    revert hq
    cases gX (lev + 1) n l.tail with
    | no r x => exact fun hq => PL.no h0 hq
    | ok e2 r =>
      intro hq
      show PL lev n e l (if lev = 4 then _ else _)
      split
      · rename_i h4
        subst h4
        exact PL.four rfl h0 hq
      · rename_i h4
        exact PL.go rfl h0 h4 hq (gL_is h).1
theorem gI_step (n : Nat) (l : T) : gI n l = if isW l [40] = true then (gX 1 n l.tail).to closeE else .no l (wrong l) := by
  refine gI_eq ?_
  cases h1 : isW l [40]
  · exact PI.bad h1
  · exact PI.to h1 (gX_is (by decide)).1
theorem gU_step (n : Nat) (l : T) : gU n l = match P.leaf l with
    | some e => .ok e l.tail
    | none => if 25 ≤ callOp l then nullE (callOp l) l.tail else if callOp l = 0 ∧ isW l [40] = false then .no l (wrong l) else if n = 24 then .no l 2 else if callOp l = 0 then gI (n + 1) l else (gI (n + 1) l.tail).to fun e r => .ok (ap (callOp l) [e]) r := by
  refine gU_eq ?_
  cases hl : P.leaf l with
  | some e => exact PU.leaf hl
  | none =>
    show PU n l (if _ then _ else _)
    split
    · rename_i h25
      exact PU.null hl h25
    rename_i h25
    split
    · rename_i hb
      exact PU.bad hl hb.1 hb.2
    rename_i hb
    split
    · rename_i hn
      subst hn
      exact PU.lim hl h25 hb
    rename_i hn
    split
    · rename_i h0
      exact PU.par hl h0 (by cases h1 : isW l [40]; exact absurd ⟨h0, h1⟩ hb; rfl) hn (gI_is _ _).1
    · rename_i h0
      exact PU.callTo hl rfl h0 (by omega) hn (gI_is _ _).1
end Go.Proofs.YteglaeopaocilaaGreatDoor.P
namespace Go.Proofs.YteglaeopaocilaaGreatDoor.P
open L (Str Tok)
open A

theorem st_ne {l : T} (h : stOp l ≠ 0) : l ≠ [] := by
  rintro rfl
  exact h (findW_nil _)
theorem nm1_ne {l : T} {nm : ByteArray} (h : nm1 l = some nm) : l ≠ [] := by
  rintro rfl
  cases h
theorem int1_ne {l : T} {m : Int} (h : int1 l = some m) : l ≠ [] := by
  rintro rfl
  cases h

/-! ### the rules that errors need -/

theorem PS.bad0 {d : Nat} {l : T} (h0 : stOp l = 0) (h1 : nm1 l = none) : PS d l (.no l (wrong l)) := by
  refine ⟨1, fun f hf => ?_⟩
  obtain ⟨k, rfl, hk⟩ := succ_of hf
  rw [pS, if_pos h0, h1]
theorem PS.bad1 {d : Nat} {l : T} {nm : ByteArray} (h0 : stOp l = 0) (h1 : nm1 l = some nm) (h2 : isW l.tail [61] = false) : PS d l (.no l.tail (wrong l.tail)) := by
  refine ⟨1, fun f hf => ?_⟩
  obtain ⟨k, rfl, hk⟩ := succ_of hf
  rw [pS, if_pos h0, h1]
  simp only
  rw [if_neg (by rw [h2]; decide)]
theorem PS.bad2 {d : Nat} {l : T} (ho : stOp l = 1 ∨ stOp l = 6) (h1 : nm1 l.tail = none) : PS d l (.no l.tail (wrong l.tail)) := by
  refine ⟨1, fun f hf => ?_⟩
  obtain ⟨k, rfl, hk⟩ := succ_of hf
  rw [pS, if_neg (by omega), if_pos ho, h1]
theorem PS.bad3 {d : Nat} {l : T} {nm : ByteArray} (ho : stOp l = 1 ∨ stOp l = 6) (h1 : nm1 l.tail = some nm) (h2 : isW l.tail.tail [61] = false) : PS d l (.no l.tail.tail (wrong l.tail.tail)) := by
  refine ⟨1, fun f hf => ?_⟩
  obtain ⟨k, rfl, hk⟩ := succ_of hf
  rw [pS, if_neg (by omega), if_pos ho, h1]
  simp only
  rw [if_neg (by rw [h2]; decide)]
theorem PE.no1 {d : Nat} {o : Int} {nm : ByteArray} {l r : T} {x : Int} (h8 : o ≠ 8) (hx : PX 1 0 l (.no r x)) : PE d o nm l (.no r x) := by
  obtain ⟨F, h⟩ := hx
  refine ⟨F + 1, fun f hf => ?_⟩
  obtain ⟨k, rfl, hk⟩ := succ_of hf
  rw [pE, if_neg h8, h k hk]
theorem PE.badw {d : Nat} {o : Int} {nm : ByteArray} {l r : T} {a : Ex} (h8 : o ≠ 8) (ho : o = 3 ∨ o = 6) (hx : PX 1 0 l (.ok a r)) (hw : isW r (if o = 6 then kTo else [61]) = false) : PE d o nm l (.no r (wrong r)) := by
  obtain ⟨F, h⟩ := hx
  refine ⟨F + 1, fun f hf => ?_⟩
  obtain ⟨k, rfl, hk⟩ := succ_of hf
  rw [pE, if_neg h8, h k hk]
  simp only
  rw [if_pos ho, if_neg (by rw [hw]; decide)]
theorem PE.no2 {d : Nat} {o : Int} {nm : ByteArray} {l r r2 : T} {a : Ex} {x : Int} (h8 : o ≠ 8) (ho : o = 3 ∨ o = 6) (hx : PX 1 0 l (.ok a r)) (hw : isW r (if o = 6 then kTo else [61]) = true) (hy : PX 1 0 r.tail (.no r2 x)) : PE d o nm l (.no r2 x) := by
  obtain ⟨F, h⟩ := hx
  obtain ⟨G, h2⟩ := hy
  refine ⟨F + G + 1, fun f hf => ?_⟩
  obtain ⟨k, rfl, hk⟩ := succ_of hf
  rw [pE, if_neg h8, h k (by omega)]
  simp only
  rw [if_pos ho, if_pos hw, h2 k (by omega)]
theorem PN.bad {d : Nat} {o : Int} {nm : ByteArray} {a b : Ex} {l : T} (hi : int1 l = none) : PN d o nm a b l (.no l (wrong l)) := by
  refine ⟨1, fun f hf => ?_⟩
  obtain ⟨k, rfl, hk⟩ := succ_of hf
  rw [pN, hi]
theorem PN.badw {d : Nat} {nm : ByteArray} {a b : Ex} {l : T} {m : Int} (hi : int1 l = some m) (hw : isW l.tail [59] = false) : PN d 8 nm a b l (.no l.tail (wrong l.tail)) := by
  refine ⟨1, fun f hf => ?_⟩
  obtain ⟨k, rfl, hk⟩ := succ_of hf
  rw [pN, hi]
  simp only
  rw [if_pos trivial, if_neg (by rw [hw]; decide)]
theorem PN.to {d : Nat} {o : Int} {nm : ByteArray} {a b : Ex} {l : T} {m : Int} {q : R (List St)} (h8 : o ≠ 8) (hi : int1 l = some m) (h : PB (d + 1) l.tail q) : PN d o nm a b l (q.to fun bd r => .ok (.mk o nm m a b bd []) r) := by
  obtain ⟨F, h⟩ := h
  refine ⟨F + 1, fun f hf => ?_⟩
  obtain ⟨k, rfl, hk⟩ := succ_of hf
  rw [pN, hi]
  simp only
  rw [if_neg h8, h k hk]
  cases q <;> rfl
theorem PT.badm {d : Nat} {nm : ByteArray} {a b : Ex} {l : T} (hw : isW l kMax = false) : PT d 6 nm a b l (.no l (wrong l)) := by
  refine ⟨1, fun f hf => ?_⟩
  obtain ⟨k, rfl, hk⟩ := succ_of hf
  rw [pT, if_pos rfl, if_neg (by rw [hw]; decide)]
theorem PT.no5 {d : Nat} {nm : ByteArray} {a b : Ex} {l r : T} {x : Int} (h : PB (d + 1) l (.no r x)) : PT d 5 nm a b l (.no r x) := by
  obtain ⟨F, h⟩ := h
  refine ⟨F + 1, fun f hf => ?_⟩
  obtain ⟨k, rfl, hk⟩ := succ_of hf
  rw [pT, if_neg (by decide), if_pos rfl, h k hk]
theorem PT.bothTo {d : Nat} {nm : ByteArray} {a b : Ex} {l r : T} {bd : List St} {q : R (List St)} (h : PB (d + 1) l (.ok bd r)) (hw : isW r kElse = true) (h2 : PB (d + 1) r.tail q) : PT d 5 nm a b l (q.to fun el r => .ok (.mk 5 nm 0 a b bd el) r) := by
  obtain ⟨F, h⟩ := h
  obtain ⟨G, h2⟩ := h2
  refine ⟨F + G + 1, fun f hf => ?_⟩
  obtain ⟨k, rfl, hk⟩ := succ_of hf
  rw [pT, if_neg (by decide), if_pos rfl, h k (by omega)]
  simp only
  rw [if_pos hw, h2 k (by omega)]
  cases q <;> rfl
theorem PT.badl {d : Nat} {o : Int} {nm : ByteArray} {a b : Ex} {l : T} (h6 : o ≠ 6) (h5 : o ≠ 5) (hw : isW l [59] = false) : PT d o nm a b l (.no l (wrong l)) := by
  refine ⟨1, fun f hf => ?_⟩
  obtain ⟨k, rfl, hk⟩ := succ_of hf
  rw [pT, if_neg h6, if_neg h5, if_neg (by rw [hw]; decide)]
theorem PB.bad {d : Nat} {l : T} (hw : isW l [123] = false) : PB d l (.no l (wrong l)) := by
  refine ⟨1, fun f hf => ?_⟩
  obtain ⟨k, rfl, hk⟩ := succ_of hf
  rw [pB, if_neg (by rw [hw]; decide)]
theorem PB.lim {d : Nat} {l : T} (hw : isW l [123] = true) (hd : 12 < d) : PB d l (.no l 2) := by
  refine ⟨1, fun f hf => ?_⟩
  obtain ⟨k, rfl, hk⟩ := succ_of hf
  rw [pB, if_pos hw, if_pos hd]
theorem PK.no {d : Nat} {acc : List St} {l r : T} {x : Int} (hw : isW l [125] = false) (hs : PS d l (.no r x)) : PK d acc l (.no r x) := by
  obtain ⟨F, h⟩ := hs
  refine ⟨F + 1, fun f hf => ?_⟩
  obtain ⟨k, rfl, hk⟩ := succ_of hf
  rw [pK, if_neg (by rw [hw]; decide), h k hk]
theorem PS.unique {d : Nat} {l : T} {r q : R St} (h : PS d l r) (h2 : PS d l q) : r = q := by
  obtain ⟨F, h⟩ := h
  obtain ⟨G, h2⟩ := h2
  rw [← h (F + G) (by omega), h2 (F + G) (by omega)]
theorem PE.unique {d : Nat} {o : Int} {nm : ByteArray} {l : T} {r q : R St} (h : PE d o nm l r) (h2 : PE d o nm l q) : r = q := by
  obtain ⟨F, h⟩ := h
  obtain ⟨G, h2⟩ := h2
  rw [← h (F + G) (by omega), h2 (F + G) (by omega)]
theorem PN.unique {d : Nat} {o : Int} {nm : ByteArray} {a b : Ex} {l : T} {r q : R St} (h : PN d o nm a b l r) (h2 : PN d o nm a b l q) : r = q := by
  obtain ⟨F, h⟩ := h
  obtain ⟨G, h2⟩ := h2
  rw [← h (F + G) (by omega), h2 (F + G) (by omega)]
theorem PT.unique {d : Nat} {o : Int} {nm : ByteArray} {a b : Ex} {l : T} {r q : R St} (h : PT d o nm a b l r) (h2 : PT d o nm a b l q) : r = q := by
  obtain ⟨F, h⟩ := h
  obtain ⟨G, h2⟩ := h2
  rw [← h (F + G) (by omega), h2 (F + G) (by omega)]
theorem PB.unique {d : Nat} {l : T} {r q : R (List St)} (h : PB d l r) (h2 : PB d l q) : r = q := by
  obtain ⟨F, h⟩ := h
  obtain ⟨G, h2⟩ := h2
  rw [← h (F + G) (by omega), h2 (F + G) (by omega)]
theorem PK.unique {d : Nat} {acc : List St} {l : T} {r q : R (List St)} (h : PK d acc l r) (h2 : PK d acc l q) : r = q := by
  obtain ⟨F, h⟩ := h
  obtain ⟨G, h2⟩ := h2
  rw [← h (F + G) (by omega), h2 (F + G) (by omega)]

/-! ### every list is read -/

theorem two_sf (l : T) : l.tail.tail <:+ l := (tail_sf _).trans (tail_sf l)
theorem two_lt {l : T} (h : l ≠ []) : l.tail.tail.length < l.length := Nat.lt_of_le_of_lt (tail_sf l.tail).length_le (tail_lt h)
section
variable (N : Nat) (ih : ∀ l : T, l.length < N → ∀ d, ∃ q, PB d l q ∧ Sf l q)
include ih
theorem PN.some (d : Nat) (o : Int) (nm : ByteArray) (a b : Ex) (l : T) (h : l.length ≤ N) : ∃ q, PN d o nm a b l q ∧ Sf l q := by
  cases hi : int1 l with
  | none => exact ⟨_, PN.bad hi, sf_w (List.suffix_refl l)⟩
  | some m =>
    have ht := tail_lt (int1_ne hi)
    rcases Decidable.em (o = 8) with rfl | h8
    · cases hw : isW l.tail [59]
      · exact ⟨_, PN.badw hi hw, sf_w (tail_sf l)⟩
      · exact ⟨_, PN.abort hi hw, two_sf l, two_lt (int1_ne hi)⟩
    · obtain ⟨q, hq, hs⟩ := ih l.tail (by omega) (d + 1)
      refine ⟨_, PN.to h8 hi hq, Sf.to (hs.up (tail_sf l)) fun bd r he => ?_⟩
      subst he
      exact Or.inr ⟨hs.1.trans (tail_sf l), by have := hs.2; omega⟩
theorem PT.some (d : Nat) (o : Int) (nm : ByteArray) (a b : Ex) (l : T) (h : l.length < N) : ∃ q, PT d o nm a b l q ∧ Sf l q := by
  rcases Decidable.em (o = 6) with rfl | h6
  · cases hw : isW l kMax
    · exact ⟨_, PT.badm hw, sf_w (List.suffix_refl l)⟩
    · obtain ⟨q, hq, hs⟩ := PN.some N ih d 6 nm a b l.tail (by have := tail_lt (isW_ne hw); omega)
      exact ⟨_, PT.loop hw hq, hs.up (tail_sf l)⟩
  rcases Decidable.em (o = 5) with rfl | h5
  · obtain ⟨q, hq, hs⟩ := ih l h (d + 1)
    cases q with
    | no r x => exact ⟨_, PT.no5 hq, hs⟩
    | ok bd r =>
      cases hw : isW r kElse
      · exact ⟨_, PT.cond hq hw, hs⟩
      · have ht := tail_lt (isW_ne hw)
        have hs' := hs.2
        obtain ⟨q2, hq2, hs2⟩ := ih r.tail (by omega) (d + 1)
        refine ⟨_, PT.bothTo hq hw hq2, ((Sf.to (hs2.up (tail_sf r)) fun el r2 he => ?_).up hs.1)⟩
        subst he
        exact Or.inr ⟨hs2.1.trans (tail_sf r), by have := hs2.2; omega⟩
  cases hw : isW l [59]
  · exact ⟨_, PT.badl h6 h5 hw, sf_w (List.suffix_refl l)⟩
  · exact ⟨_, PT.line h6 h5 hw, tail_sf l, tail_lt (isW_ne hw)⟩
theorem PE.some (d : Nat) (o : Int) (nm : ByteArray) (l : T) (h : l.length ≤ N) : ∃ q, PE d o nm l q ∧ Sf l q := by
  rcases Decidable.em (o = 8) with rfl | h8
  · obtain ⟨q, hq, hs⟩ := PN.some N ih d 8 nm noE noE l h
    exact ⟨q, PE.abort hq, hs⟩
  obtain ⟨q, hq, hs⟩ := PX.all 1 0 l (by decide)
  cases q with
  | no r x => exact ⟨_, PE.no1 h8 hq, hs⟩
  | ok a r =>
    have hs' := hs.2
    rcases Decidable.em (o = 3 ∨ o = 6) with ho | ho
    · cases hw : isW r (if o = 6 then kTo else [61])
      · exact ⟨_, PE.badw h8 ho hq hw, sf_w hs.1⟩
      · have ht := tail_lt (isW_ne hw)
        obtain ⟨q2, hq2, hs2⟩ := PX.all 1 0 r.tail (by decide)
        cases q2 with
        | no r2 x => exact ⟨_, PE.no2 h8 ho hq hw hq2, (hs2.1.trans (tail_sf r)).trans hs.1, hs2.2⟩
        | ok b r2 =>
          have hs2' := hs2.2
          obtain ⟨q3, hq3, hs3⟩ := PT.some N ih d o nm a b r2 (by omega)
          exact ⟨_, PE.two h8 ho hq hw hq2 hq3, hs3.up ((hs2.1.trans (tail_sf r)).trans hs.1)⟩
    · obtain ⟨q3, hq3, hs3⟩ := PT.some N ih d o nm a noE r (by omega)
      exact ⟨_, PE.one h8 ho hq hq3, hs3.up hs.1⟩
theorem PS.some (d : Nat) (l : T) (h : l.length ≤ N) : ∃ q, PS d l q ∧ Sf l q := by
  have t1 := (tail_sf l).length_le
  have t2 := (two_sf l).length_le
  rcases Decidable.em (stOp l = 0) with h0 | h0
  · cases h1 : nm1 l with
    | none => exact ⟨_, PS.bad0 h0 h1, sf_w (List.suffix_refl l)⟩
    | some nm =>
      cases hw : isW l.tail [61]
      · exact ⟨_, PS.bad1 h0 h1 hw, sf_w (tail_sf l)⟩
      · obtain ⟨q, hq, hs⟩ := PE.some N ih d 2 nm l.tail.tail (by omega)
        exact ⟨_, PS.set h0 h1 hw hq, hs.up (two_sf l)⟩
  rcases Decidable.em (stOp l = 1 ∨ stOp l = 6) with ho | ho
  · cases h1 : nm1 l.tail with
    | none => exact ⟨_, PS.bad2 ho h1, sf_w (tail_sf l)⟩
    | some nm =>
      cases hw : isW l.tail.tail [61]
      · exact ⟨_, PS.bad3 ho h1 hw, sf_w (two_sf l)⟩
      · have t3 := (tail_sf l.tail.tail).length_le
        obtain ⟨q, hq, hs⟩ := PE.some N ih d (stOp l) nm l.tail.tail.tail (by omega)
        exact ⟨_, PS.named rfl ho h1 hw hq, hs.up ((tail_sf _).trans (two_sf l))⟩
  · obtain ⟨q, hq, hs⟩ := PE.some N ih d (stOp l) none8 l.tail (by omega)
    exact ⟨_, PS.plain rfl h0 ho hq, hs.up (tail_sf l)⟩
theorem PK.some (d : Nat) : ∀ (M : Nat) (l : T) (acc : List St), l.length ≤ M → M ≤ N → ∃ q, PK d acc l q ∧ Sf l q := by
  intro M
  induction M with
  | zero =>
    intro l acc h hM
    have : l = [] := List.length_eq_zero_iff.1 (by omega)
    subst this
    obtain ⟨q, hq, hs⟩ := PS.some N ih d [] (by simp)
    cases q with
    | no r x => exact ⟨_, PK.no rfl hq, hs⟩
    | ok s r => exact absurd hs.2 (Nat.not_lt_zero _)
  | succ M ihM =>
    intro l acc h hM
    cases hw : isW l [125]
    · obtain ⟨q, hq, hs⟩ := PS.some N ih d l (by omega)
      cases q with
      | no r x => exact ⟨_, PK.no hw hq, hs⟩
      | ok s r =>
        have hs' := hs.2
        obtain ⟨q2, hq2, hs2⟩ := ihM r (acc ++ [s]) (by omega) (by omega)
        exact ⟨_, PK.go hw hq hq2, hs2.up hs.1⟩
    · exact ⟨_, PK.stop hw, tail_sf l, tail_lt (isW_ne hw)⟩
theorem PB.some (d : Nat) (l : T) (h : l.length ≤ N) : ∃ q, PB d l q ∧ Sf l q := by
  cases hw : isW l [123]
  · exact ⟨_, PB.bad hw, sf_w (List.suffix_refl l)⟩
  rcases Nat.lt_or_ge 12 d with hd | hd
  · exact ⟨_, PB.lim hw hd, sf_2 (List.suffix_refl l)⟩
  obtain ⟨q, hq, hs⟩ := PK.some N ih d l.tail.length l.tail [] (Nat.le_refl _) (by have := (tail_sf l).length_le; omega)
  exact ⟨_, PB.ok hw hd hq, hs.up (tail_sf l)⟩
end
theorem PB.lt : ∀ (N : Nat) (l : T), l.length < N → ∀ d, ∃ q, PB d l q ∧ Sf l q := by
  intro N
  induction N with
  | zero => intro l h; omega
  | succ N ih => exact fun l h d => PB.some N ih d l (by omega)
theorem PB.all (d : Nat) (l : T) : ∃ q, PB d l q ∧ Sf l q := PB.lt (l.length + 1) l (Nat.lt_succ_self _) d
theorem PS.all (d : Nat) (l : T) : ∃ q, PS d l q ∧ Sf l q := PS.some l.length (PB.lt _) d l (Nat.le_refl _)
theorem PE.all (d : Nat) (o : Int) (nm : ByteArray) (l : T) : ∃ q, PE d o nm l q ∧ Sf l q := PE.some l.length (PB.lt _) d o nm l (Nat.le_refl _)
theorem PN.all (d : Nat) (o : Int) (nm : ByteArray) (a b : Ex) (l : T) : ∃ q, PN d o nm a b l q ∧ Sf l q := PN.some l.length (PB.lt _) d o nm a b l (Nat.le_refl _)
theorem PT.all (d : Nat) (o : Int) (nm : ByteArray) (a b : Ex) (l : T) : ∃ q, PT d o nm a b l q ∧ Sf l q := PT.some (l.length + 1) (PB.lt _) d o nm a b l (Nat.lt_succ_self _)
theorem PK.all (d : Nat) (acc : List St) (l : T) : ∃ q, PK d acc l q ∧ Sf l q := PK.some l.length (PB.lt _) d l.length l acc (Nat.le_refl _) (Nat.le_refl _)

/-! ### the grammar's functions -/

noncomputable def gS (d : Nat) (l : T) : R St := (PS.all d l).choose
noncomputable def gE (d : Nat) (o : Int) (nm : ByteArray) (l : T) : R St := (PE.all d o nm l).choose
noncomputable def gN (d : Nat) (o : Int) (nm : ByteArray) (a b : Ex) (l : T) : R St := (PN.all d o nm a b l).choose
noncomputable def gT (d : Nat) (o : Int) (nm : ByteArray) (a b : Ex) (l : T) : R St := (PT.all d o nm a b l).choose
noncomputable def gB (d : Nat) (l : T) : R (List St) := (PB.all d l).choose
noncomputable def gK (d : Nat) (acc : List St) (l : T) : R (List St) := (PK.all d acc l).choose
theorem gS_is (d : Nat) (l : T) : PS d l (gS d l) ∧ Sf l (gS d l) := (PS.all d l).choose_spec
theorem gE_is (d : Nat) (o : Int) (nm : ByteArray) (l : T) : PE d o nm l (gE d o nm l) ∧ Sf l (gE d o nm l) := (PE.all d o nm l).choose_spec
theorem gN_is (d : Nat) (o : Int) (nm : ByteArray) (a b : Ex) (l : T) : PN d o nm a b l (gN d o nm a b l) ∧ Sf l (gN d o nm a b l) := (PN.all d o nm a b l).choose_spec
theorem gT_is (d : Nat) (o : Int) (nm : ByteArray) (a b : Ex) (l : T) : PT d o nm a b l (gT d o nm a b l) ∧ Sf l (gT d o nm a b l) := (PT.all d o nm a b l).choose_spec
theorem gB_is (d : Nat) (l : T) : PB d l (gB d l) ∧ Sf l (gB d l) := (PB.all d l).choose_spec
theorem gK_is (d : Nat) (acc : List St) (l : T) : PK d acc l (gK d acc l) ∧ Sf l (gK d acc l) := (PK.all d acc l).choose_spec
theorem gS_step (d : Nat) (l : T) : gS d l =
    if stOp l = 0 then
      match nm1 l with
      | none => .no l (wrong l)
      | some nm => if isW l.tail [61] = true then gE d 2 nm l.tail.tail else .no l.tail (wrong l.tail)
    else if stOp l = 1 ∨ stOp l = 6 then
      match nm1 l.tail with
      | none => .no l.tail (wrong l.tail)
      | some nm => if isW l.tail.tail [61] = true then gE d (stOp l) nm l.tail.tail.tail else .no l.tail.tail (wrong l.tail.tail)
    else gE d (stOp l) none8 l.tail := by
  refine (gS_is d l).1.unique ?_
  split
  · rename_i h0
    cases h1 : nm1 l with
    | none => exact PS.bad0 h0 h1
    | some nm =>
      show PS d l (if _ then _ else _)
      cases hw : isW l.tail [61]
      · exact PS.bad1 h0 h1 hw
      · exact PS.set h0 h1 hw (gE_is _ _ _ _).1
  · rename_i h0
    split
    · rename_i ho
      cases h1 : nm1 l.tail with
      | none => exact PS.bad2 ho h1
      | some nm =>
        show PS d l (if _ then _ else _)
        cases hw : isW l.tail.tail [61]
        · exact PS.bad3 ho h1 hw
        · exact PS.named rfl ho h1 hw (gE_is _ _ _ _).1
    · rename_i ho
      exact PS.plain rfl h0 ho (gE_is _ _ _ _).1
theorem gE_step (d : Nat) (o : Int) (nm : ByteArray) (l : T) : gE d o nm l =
    if o = 8 then gN d o nm noE noE l
    else (gX 1 0 l).to fun a r =>
      if o = 3 ∨ o = 6 then
        if isW r (if o = 6 then kTo else [61]) = true then (gX 1 0 r.tail).to fun b r2 => gT d o nm a b r2 else .no r (wrong r)
      else gT d o nm a noE r := by
  refine (gE_is d o nm l).1.unique ?_
  split
  · rename_i h8
    subst h8
    exact PE.abort (gN_is _ _ _ _ _ _).1
  · rename_i h8
    have hq := (gX_is (lev := 1) (n := 0) (l := l) (by decide)).1
    revert hq
    cases gX 1 0 l with
    | no r x => exact fun hq => PE.no1 h8 hq
    | ok a r =>
      intro hq
      show PE d o nm l (if _ then _ else _)
      split
      · rename_i ho
        cases hw : isW r (if o = 6 then kTo else [61])
        · exact PE.badw h8 ho hq hw
        · show PE d o nm l (R.to _ _)
          have hq2 := (gX_is (lev := 1) (n := 0) (l := r.tail) (by decide)).1
          revert hq2
          cases gX 1 0 r.tail with
          | no r2 x => exact fun hq2 => PE.no2 h8 ho hq hw hq2
          | ok b r2 => exact fun hq2 => PE.two h8 ho hq hw hq2 (gT_is _ _ _ _ _ _).1
      · rename_i ho
        exact PE.one h8 ho hq (gT_is _ _ _ _ _ _).1
theorem gN_step (d : Nat) (o : Int) (nm : ByteArray) (a b : Ex) (l : T) : gN d o nm a b l = match int1 l with
    | none => .no l (wrong l)
    | some m => if o = 8 then (if isW l.tail [59] = true then .ok (.mk o nm m a b [] []) l.tail.tail else .no l.tail (wrong l.tail)) else (gB (d + 1) l.tail).to fun bd r => .ok (.mk o nm m a b bd []) r := by
  refine (gN_is d o nm a b l).1.unique ?_
  cases hi : int1 l with
  | none => exact PN.bad hi
  | some m =>
    show PN d o nm a b l (if _ then _ else _)
    split
    · rename_i h8
      subst h8
      cases hw : isW l.tail [59]
      · exact PN.badw hi hw
      · exact PN.abort hi hw
    · rename_i h8
      exact PN.to h8 hi (gB_is _ _).1
theorem gT_step (d : Nat) (o : Int) (nm : ByteArray) (a b : Ex) (l : T) : gT d o nm a b l =
    if o = 6 then (if isW l kMax = true then gN d o nm a b l.tail else .no l (wrong l))
    else if o = 5 then (gB (d + 1) l).to fun bd r => if isW r kElse = true then (gB (d + 1) r.tail).to fun el r2 => .ok (.mk o nm 0 a b bd el) r2 else .ok (.mk o nm 0 a b bd []) r
    else if isW l [59] = true then .ok (.mk o nm 0 a b [] []) l.tail else .no l (wrong l) := by
  refine (gT_is d o nm a b l).1.unique ?_
  split
  · rename_i h6
    subst h6
    cases hw : isW l kMax
    · exact PT.badm hw
    · exact PT.loop hw (gN_is _ _ _ _ _ _).1
  rename_i h6
  split
  · rename_i h5
    subst h5
    have hq := (gB_is (d + 1) l).1
    revert hq
    cases gB (d + 1) l with
    | no r x => exact fun hq => PT.no5 hq
    | ok bd r =>
      intro hq
      show PT d 5 nm a b l (if _ then _ else _)
      cases hw : isW r kElse
      · exact PT.cond hq hw
      · exact PT.bothTo hq hw (gB_is _ _).1
  · rename_i h5
    cases hw : isW l [59]
    · exact PT.badl h6 h5 hw
    · exact PT.line h6 h5 hw
theorem gB_step (d : Nat) (l : T) : gB d l = if isW l [123] = true then (if 12 < d then .no l 2 else gK d [] l.tail) else .no l (wrong l) := by
  refine (gB_is d l).1.unique ?_
  cases hw : isW l [123]
  · exact PB.bad hw
  · show PB d l (if 12 < d then _ else _)
    split
    · rename_i hd
      exact PB.lim hw hd
    · rename_i hd
      exact PB.ok hw (by omega) (gK_is _ _ _).1
theorem gK_step (d : Nat) (acc : List St) (l : T) : gK d acc l = if isW l [125] = true then .ok acc l.tail else (gS d l).to fun s r => gK d (acc ++ [s]) r := by
  refine (gK_is d acc l).1.unique ?_
  cases hw : isW l [125]
  · show PK d acc l (R.to _ _)
    have hq := (gS_is d l).1
    revert hq
    cases gS d l with
    | no r x => exact fun hq => PK.no hw hq
    | ok s r => exact fun hq => PK.go hw hq (gK_is _ _ _).1
  · exact PK.stop hw
end Go.Proofs.YteglaeopaocilaaGreatDoor.P
namespace Go.Proofs.YteglaeopaocilaaGreatDoor.P
open L (Str Tok)
open A

def PPs (acc : List Pm) (l : T) (r : R (List Pm)) : Prop := ∃ F, ∀ f, F ≤ f → pPs f acc l = r
def PP (l : T) (r : R Pr) : Prop := ∃ F, ∀ f, F ≤ f → pP f l = r
theorem PPs.unique {acc : List Pm} {l : T} {r q : R (List Pm)} (h : PPs acc l r) (h2 : PPs acc l q) : r = q := by
  obtain ⟨F, h⟩ := h
  obtain ⟨G, h2⟩ := h2
  rw [← h (F + G) (by omega), h2 (F + G) (by omega)]
theorem PP.unique {l : T} {r q : R Pr} (h : PP l r) (h2 : PP l q) : r = q := by
  obtain ⟨F, h⟩ := h
  obtain ⟨G, h2⟩ := h2
  rw [← h (F + G) (by omega), h2 (F + G) (by omega)]
/-- parameters, with what reads the ones behind the next comma -/
def bodPs (k : List Pm → T → R (List Pm)) (acc : List Pm) (l : T) : R (List Pm) :=
  match nm1 l with
  | none => .no l (wrong l)
  | some nm =>
    if isW l.tail [58] = true then
      if tyOp l.tail.tail = 0 then .no l.tail.tail (wrong l.tail.tail)
      else if isW l.tail.tail.tail [41] = true then .ok (acc ++ [⟨nm, tyOp l.tail.tail⟩]) l.tail.tail.tail.tail
      else if isW l.tail.tail.tail [44] = true then k (acc ++ [⟨nm, tyOp l.tail.tail⟩]) l.tail.tail.tail.tail
      else .no l.tail.tail.tail (wrong l.tail.tail.tail)
    else .no l.tail (wrong l.tail)
theorem pPs_bod (f : Nat) (acc : List Pm) (l : T) : pPs (f + 1) acc l = bodPs (pPs f) acc l := by
  rw [pPs]
  rfl
theorem four_sf (l : T) : l.tail.tail.tail.tail <:+ l := (two_sf _).trans (two_sf l)
theorem three_sf (l : T) : l.tail.tail.tail <:+ l := (tail_sf _).trans (two_sf l)
theorem four_lt {l : T} (h : l ≠ []) : l.tail.tail.tail.tail.length < l.length := Nat.lt_of_le_of_lt (two_sf l.tail.tail).length_le (two_lt h)
theorem bodPs_sf {k : List Pm → T → R (List Pm)} {acc : List Pm} {l : T} (hk : ∀ a, l ≠ [] → Sf l.tail.tail.tail.tail (k a l.tail.tail.tail.tail)) : Sf l (bodPs k acc l) := by
  unfold bodPs
  cases h1 : nm1 l with
  | none => exact sf_w (List.suffix_refl l)
  | some nm =>
    have hne := nm1_ne h1
    show Sf l (if isW l.tail [58] = true then _ else _)
    split
    · split
      · exact sf_w (two_sf l)
      · split
        · exact ⟨four_sf l, four_lt hne⟩
        · split
          · exact (hk _ hne).up (four_sf l)
          · exact sf_w (three_sf l)
    · exact sf_w (tail_sf l)
theorem sf_any {α : Type} (l : T) : Sf (α := α) l (.no l 5) := ⟨List.suffix_refl l, Or.inr (Or.inl rfl)⟩
theorem PPs.lt : ∀ (N : Nat) (l : T) (acc : List Pm), l.length < N → ∃ q, PPs acc l q ∧ Sf l q := by
  intro N
  induction N with
  | zero => intro l acc h; omega
  | succ N ih =>
    intro l acc h
    rcases Decidable.em (l = []) with rfl | hne
    · refine ⟨.no [] (wrong []), ⟨1, fun f hf => ?_⟩, sf_w (List.suffix_refl _)⟩
      obtain ⟨k, rfl, _⟩ := succ_of hf
      rw [pPs_bod]
      rfl
    have hlt := four_lt hne
    cases h1 : nm1 l with
    | none =>
      refine ⟨bodPs (fun _ l => .no l 5) acc l, ⟨1, fun f hf => ?_⟩, bodPs_sf fun _ _ => sf_any _⟩
      obtain ⟨k, rfl, _⟩ := succ_of hf
      rw [pPs_bod]
      unfold bodPs
      rw [h1]
    | some nm =>
      obtain ⟨q, ⟨F, hq⟩, hs⟩ := ih l.tail.tail.tail.tail (acc ++ [⟨nm, tyOp l.tail.tail⟩]) (by omega)
      refine ⟨bodPs (fun _ _ => q) acc l, ⟨F + 1, fun f hf => ?_⟩, bodPs_sf fun _ _ => hs⟩
      obtain ⟨k, rfl, hk⟩ := succ_of hf
      rw [pPs_bod]
      unfold bodPs
      rw [h1]
      show (if isW l.tail [58] = true then _ else _) = (if isW l.tail [58] = true then _ else _)
      rw [hq k hk]
theorem PPs.all (acc : List Pm) (l : T) : ∃ q, PPs acc l q ∧ Sf l q := PPs.lt (l.length + 1) l acc (Nat.lt_succ_self _)
noncomputable def gPs (acc : List Pm) (l : T) : R (List Pm) := (PPs.all acc l).choose
theorem gPs_is (acc : List Pm) (l : T) : PPs acc l (gPs acc l) ∧ Sf l (gPs acc l) := (PPs.all acc l).choose_spec
theorem gPs_step (acc : List Pm) (l : T) : gPs acc l = bodPs gPs acc l := by
  refine (gPs_is acc l).1.unique ?_
  cases h1 : nm1 l with
  | none =>
    refine ⟨1, fun f hf => ?_⟩
    obtain ⟨k, rfl, _⟩ := succ_of hf
    rw [pPs_bod]
    unfold bodPs
    rw [h1]
  | some nm =>
    obtain ⟨F, hq⟩ := (gPs_is (acc ++ [⟨nm, tyOp l.tail.tail⟩]) l.tail.tail.tail.tail).1
    refine ⟨F + 1, fun f hf => ?_⟩
    obtain ⟨k, rfl, hk⟩ := succ_of hf
    rw [pPs_bod]
    unfold bodPs
    rw [h1]
    show (if isW l.tail [58] = true then _ else _) = (if isW l.tail [58] = true then _ else _)
    rw [hq k hk]
/-- what params yields -/
noncomputable def gQ (l : T) : R (List Pm) := if isW l [41] = true then .ok [] l.tail else gPs [] l
theorem gQ_sf (l : T) : Sf l (gQ l) := by
  unfold gQ
  split
  · rename_i h
    exact ⟨tail_sf l, tail_lt (isW_ne h)⟩
  · exact (gPs_is [] l).2
/-- what proc yields -/
noncomputable def gP (l : T) : R Pr :=
  if isW l kProc = true then
    match nm1 l.tail with
    | none => .no l.tail (wrong l.tail)
    | some nm => if isW l.tail.tail [40] = true then (gQ l.tail.tail.tail).to fun ps r => (gB 0 r).to fun b r2 => .ok ⟨nm, ps, b⟩ r2 else .no l.tail.tail (wrong l.tail.tail)
  else .no l (wrong l)
theorem gP_sf (l : T) : Sf l (gP l) := by
  unfold gP
  split
  · cases h1 : nm1 l.tail with
    | none => exact sf_w (tail_sf l)
    | some nm =>
      show Sf l (if isW l.tail.tail [40] = true then _ else _)
      split
      · refine Sf.to ((gQ_sf _).up (three_sf l)) fun ps r he => Or.inl ?_
        refine Sf.to (gB_is 0 r).2 fun b r2 hb => Or.inr ?_
        have := (gB_is 0 r).2
        rw [hb] at this
        exact this
      · exact sf_w (two_sf l)
  · exact sf_w (List.suffix_refl l)
theorem gP_is (l : T) : PP l (gP l) := by
  obtain ⟨F, hF⟩ := (gPs_is [] l.tail.tail.tail).1
  have hQ : ∀ f, F ≤ f → (if isW l.tail.tail.tail [41] = true then R.ok [] l.tail.tail.tail.tail else pPs f [] l.tail.tail.tail) = gQ l.tail.tail.tail := fun f hf => by
    rw [hF f hf]
    rfl
  cases hq : gQ l.tail.tail.tail with
  | no r x =>
    refine ⟨F, fun f hf => ?_⟩
    unfold pP gP
    rw [hQ f hf, hq]
    rfl
  | ok ps r =>
    obtain ⟨G, hG⟩ := (gB_is 0 r).1
    refine ⟨F + G, fun f hf => ?_⟩
    unfold pP gP
    rw [hQ f (by omega), hq]
    simp only [R.to]
    rw [hG f (by omega)]
    cases gB 0 r <;> rfl
end Go.Proofs.YteglaeopaocilaaGreatDoor.P
