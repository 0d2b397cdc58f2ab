/-
  Plain mathematics of layer 11, without the program: the types of expressions.
-/
import Derived.Test.YtnelpgeiioflmaaGreatDoorSAFacts
namespace Go.Proofs.YtnelpgeiioflmaaGreatDoor.Y
open A (Ex St Pm Pr V arity vE vEs nodeE absent)

abbrev Env := ByteArray → Option Int
def look : List Pm → Env
  | [] => fun _ => none
  | p :: r => fun x => if p.name = x then some p.ty else look r x
def inE (o : Int) : Int :=
  if o = 10 ∨ o = 11 then 14 else if 12 ≤ o ∧ o ≤ 15 then 6 else if (4 ≤ o ∧ o ≤ 9) ∨ o = 20 then 2
  else if o = 16 ∨ o = 17 ∨ o = 18 then 8 else if o = 19 ∨ (21 ≤ o ∧ o ≤ 24) then 4 else 0
def outE (o : Int) : Int :=
  if o = 1 ∨ (4 ≤ o ∧ o ≤ 9) ∨ o = 21 ∨ o = 22 ∨ o = 25 ∨ o = 26 ∨ o = 27 then 1
  else if o = 2 ∨ o = 19 ∨ o = 20 ∨ o = 23 then 2 else if (10 ≤ o ∧ o ≤ 18) ∨ o = 24 then 3 else 0
def hasT (m t : Int) : Bool := decide (m / 2 ^ t.toNat % 2 = 1)
def acc (m : Int) (ts : List Int) : Bool := ts.all fun t => hasT m t && decide (t = ts.headD 0)
def tyV (f : Env) (s : ByteArray) : Int × Int :=
  match f s with
  | none => (0, 11)
  | some t => if 1 ≤ t ∧ t ≤ 3 then (t, 0) else (0, 10)
mutual
def tyE (f : Env) : Ex → Int × Int
  | .mk o _ s l => if o = 3 then tyV f s else if (tyEs f l).2 ≠ 0 then (0, (tyEs f l).2) else if acc (inE o) (tyEs f l).1 then (outE o, 0) else (0, 10)
def tyEs (f : Env) : List Ex → List Int × Int
  | [] => ([], 0)
  | e :: r => if (tyE f e).2 ≠ 0 then ([], (tyE f e).2) else ((tyE f e).1 :: (tyEs f r).1, (tyEs f r).2)
end
def ofE (f : Env) (e : Ex) : Int × Int := if vE e 1 ≠ 0 then (0, vE e 1) else tyE f e
/-! the specification's tables -/
def unW (o : Int) : Int := if o = 9 ∨ o = 20 then 1 else if o = 18 then 3 else 2
def unO (o : Int) : Int := if o = 9 ∨ o = 21 ∨ o = 22 then 1 else if o = 20 ∨ o = 23 then 2 else 3
def biO (o a b : Int) : Int :=
  if a ≠ b then 0 else if (4 ≤ o ∧ o ≤ 8) ∧ a = 1 then 1
  else if o = 10 ∨ o = 11 ∨ (12 ≤ o ∧ o ≤ 15 ∧ a ≠ 3) ∨ ((o = 16 ∨ o = 17) ∧ a = 3) then 3
  else if o = 19 ∧ a = 2 then 2 else 0

theorem vE_open {o n : Int} {s : ByteArray} {l : List Ex} {d : Nat} (h : vE (.mk o n s l) d = 0) : nodeE (.mk o n s l) d = 0 ∧ vEs l (d + 1) = 0 := by
  rw [vE] at h
  by_cases h0 : nodeE (.mk o n s l) d = 0
  · rw [if_neg (fun x => x h0)] at h; exact ⟨h0, h⟩
  · rw [if_pos h0] at h; exact absurd h h0
theorem node_open {e : Ex} {d : Nat} (h : nodeE e d = 0) : 0 ≤ arity e.op ∧ (e.args.length : Int) = arity e.op ∧ (e.op = 3 → A.nam e.s = true) := by
  unfold nodeE at h
  by_cases h1 : arity e.op < 0 ∨ (e.op ≠ 1 ∧ e.n ≠ 0) ∨ (e.op ≠ 2 ∧ e.op ≠ 3 ∧ e.s.size ≠ 0)
  · rw [if_pos h1] at h; cases h
  rw [if_neg h1] at h
  by_cases h2 : e.op = 3 ∧ A.nam e.s = false
  · rw [if_pos h2] at h; cases h
  rw [if_neg h2] at h
  by_cases h3 : e.n < 0 ∨ (e.op = 2 ∧ A.plain e.s = false) ∨ (e.args.length : Int) ≠ arity e.op
  · rw [if_pos h3] at h; cases h
  refine ⟨by omega, Decidable.byContradiction fun x => h3 (Or.inr (Or.inr x)), fun x => ?_⟩
  cases hn : A.nam e.s
  · exact absurd ⟨x, hn⟩ h2
  · rfl
theorem arity_cases {o : Int} (h : 0 ≤ arity o) :
    (arity o = 0 ∧ (o = 1 ∨ o = 2 ∨ o = 3 ∨ o = 25 ∨ o = 26 ∨ o = 27)) ∨ (arity o = 1 ∧ (o = 9 ∨ o = 18 ∨ o = 20 ∨ o = 21 ∨ o = 22 ∨ o = 23 ∨ o = 24)) ∨
    (arity o = 2 ∧ 4 ≤ o ∧ o ≤ 19 ∧ o ≠ 9 ∧ o ≠ 18) := by
  unfold arity at h ⊢
  by_cases h1 : o = 1 ∨ o = 2 ∨ o = 3 ∨ o = 25 ∨ o = 26 ∨ o = 27
  · rw [if_pos h1] at h ⊢; exact Or.inl ⟨rfl, h1⟩
  rw [if_neg h1] at h ⊢
  by_cases h2 : o = 9 ∨ o = 18 ∨ o = 20 ∨ o = 21 ∨ o = 22 ∨ o = 23 ∨ o = 24
  · rw [if_pos h2] at h ⊢; exact Or.inr (Or.inl ⟨rfl, h2⟩)
  rw [if_neg h2] at h ⊢
  by_cases h3 : 4 ≤ o ∧ o ≤ 19
  · rw [if_pos h3] at h ⊢; exact Or.inr (Or.inr ⟨rfl, h3.1, h3.2, by omega, by omega⟩)
  · rw [if_neg h3] at h; omega
theorem len0 {l : List Ex} (h : (l.length : Int) = 0) : l = [] := by
  cases l with
  | nil => rfl
  | cons a r => simp at h; omega
theorem len1 {l : List Ex} (h : (l.length : Int) = 1) : ∃ x, l = [x] := by
  cases l with
  | nil => simp at h
  | cons a r => cases r with
    | nil => exact ⟨a, rfl⟩
    | cons b q => simp at h; omega
theorem len2 {l : List Ex} (h : (l.length : Int) = 2) : ∃ x y, l = [x, y] := by
  cases l with
  | nil => simp at h
  | cons a r => cases r with
    | nil => simp at h
    | cons b q => cases q with
      | nil => exact ⟨a, b, rfl⟩
      | cons c q => simp at h; omega
theorem vEs_cons {e : Ex} {r : List Ex} {d : Nat} (h : vEs (e :: r) d = 0) : vE e d = 0 ∧ vEs r d = 0 := by
  rw [vEs] at h
  by_cases h0 : vE e d = 0
  · rw [if_neg (fun x => x h0)] at h; exact ⟨h0, h⟩
  · rw [if_pos h0] at h; exact absurd h h0

theorem ty_leaf (f : Env) {o n : Int} {s : ByteArray} {l : List Ex} {d : Nat} (h : vE (.mk o n s l) d = 0) (ha : arity o = 0) :
    l = [] ∧ tyE f (.mk o n s l) = if o = 3 then tyV f s else if o = 2 then (2, 0) else (1, 0) := by
  obtain ⟨h1, h2⟩ := vE_open h
  obtain ⟨-, h3, -⟩ := node_open h1
  have hl : l = [] := len0 (h3.trans ha)
  subst hl
  refine ⟨rfl, ?_⟩
  rcases arity_cases (o := o) (by omega) with ⟨-, h4⟩ | ⟨h4, -⟩ | ⟨h4, -⟩
  · rw [tyE, tyEs]
    rcases h4 with rfl | rfl | rfl | rfl | rfl | rfl <;> rfl
  · omega
  · omega
theorem rng_cases {t : Int} (h : 1 ≤ t ∧ t ≤ 3) : t = 1 ∨ t = 2 ∨ t = 3 := by omega
theorem tyV_none {f : Env} {s : ByteArray} (h : f s = none) : tyV f s = (0, 11) := by unfold tyV; rw [h]
theorem tyV_some {f : Env} {s : ByteArray} {t : Int} (h : f s = some t) : tyV f s = if 1 ≤ t ∧ t ≤ 3 then (t, 0) else (0, 10) := by unfold tyV; rw [h]
theorem tys_cons_bad (f : Env) {e : Ex} {r : List Ex} (h : (tyE f e).2 ≠ 0) : tyEs f (e :: r) = ([], (tyE f e).2) := by rw [tyEs, if_pos h]
theorem tys_cons (f : Env) {e : Ex} {r : List Ex} (h : (tyE f e).2 = 0) : tyEs f (e :: r) = ((tyE f e).1 :: (tyEs f r).1, (tyEs f r).2) := by rw [tyEs, if_neg (fun x => x h)]
theorem tys_nil (f : Env) : tyEs f [] = ([], 0) := by rw [tyEs]
theorem ty_node (f : Env) {o n : Int} {s : ByteArray} {l : List Ex} (ho : o ≠ 3) :
    tyE f (.mk o n s l) = if (tyEs f l).2 ≠ 0 then (0, (tyEs f l).2) else if acc (inE o) (tyEs f l).1 then (outE o, 0) else (0, 10) := by rw [tyE, if_neg ho]
theorem tyV_rng (f : Env) (s : ByteArray) : ((tyV f s).2 = 0 ∧ 1 ≤ (tyV f s).1 ∧ (tyV f s).1 ≤ 3) ∨ (((tyV f s).2 = 10 ∨ (tyV f s).2 = 11) ∧ (tyV f s).1 = 0) := by
  cases hf : f s with
  | none => rw [tyV_none hf]; exact Or.inr ⟨Or.inr rfl, rfl⟩
  | some t =>
    rw [tyV_some hf]
    by_cases h : 1 ≤ t ∧ t ≤ 3
    · rw [if_pos h]; exact Or.inl ⟨rfl, h⟩
    · rw [if_neg h]; exact Or.inr ⟨Or.inl rfl, rfl⟩
mutual
theorem ty_rng (f : Env) : ∀ (e : Ex) {d : Nat}, vE e d = 0 → ((tyE f e).2 = 0 ∧ 1 ≤ (tyE f e).1 ∧ (tyE f e).1 ≤ 3) ∨ (((tyE f e).2 = 10 ∨ (tyE f e).2 = 11) ∧ (tyE f e).1 = 0)
  | .mk o n s l, d, h => by
    obtain ⟨h1, h2⟩ := vE_open h
    obtain ⟨h0, h3, -⟩ := node_open h1
    rw [tyE]
    by_cases ho : o = 3
    · rw [if_pos ho]; exact tyV_rng f s
    rw [if_neg ho]
    by_cases h4 : (tyEs f l).2 = 0
    · rw [if_neg (fun x => x h4)]
      cases h5 : acc (inE o) (tyEs f l).1
      · rw [if_neg (by decide)]; exact Or.inr ⟨Or.inl rfl, rfl⟩
      · rw [if_pos rfl]
        refine Or.inl ⟨rfl, ?_⟩
        change 1 ≤ outE o ∧ outE o ≤ 3
        have h0' : 0 ≤ arity o := h0
        rcases arity_cases h0' with ⟨-, h6⟩ | ⟨-, h6⟩ | ⟨-, h6⟩
        · rcases h6 with rfl | rfl | h6 | rfl | rfl | rfl <;> first | exact absurd h6 ho | decide
        · rcases h6 with rfl | rfl | rfl | rfl | rfl | rfl | rfl <;> decide
        · have h7 : o = 4 ∨ o = 5 ∨ o = 6 ∨ o = 7 ∨ o = 8 ∨ o = 10 ∨ o = 11 ∨ o = 12 ∨ o = 13 ∨ o = 14 ∨ o = 15 ∨ o = 16 ∨ o = 17 ∨ o = 19 := by omega
          rcases h7 with rfl | rfl | rfl | rfl | rfl | rfl | rfl | rfl | rfl | rfl | rfl | rfl | rfl | rfl <;> decide
    · rw [if_pos h4]
      refine Or.inr ⟨?_, rfl⟩
      exact tys_err f l h2 h4
theorem tys_err (f : Env) : ∀ (l : List Ex) {d : Nat}, vEs l d = 0 → (tyEs f l).2 ≠ 0 → (tyEs f l).2 = 10 ∨ (tyEs f l).2 = 11
  | [], d, _, h4 => by rw [tyEs] at h4; exact absurd rfl h4
  | e :: r, d, h2, h4 => by
    obtain ⟨h5, h6⟩ := vEs_cons h2
    rw [tyEs] at h4 ⊢
    by_cases h7 : (tyE f e).2 = 0
    · rw [if_neg (fun x => x h7)] at h4 ⊢; exact tys_err f r h6 h4
    · rw [if_pos h7] at h4 ⊢
      rcases ty_rng f e h5 with h | h
      · exact absurd h.1 h7
      · exact h.1
end
theorem tys_in (f : Env) : ∀ (l : List Ex) {d : Nat}, vEs l d = 0 → ∀ t ∈ (tyEs f l).1, 1 ≤ t ∧ t ≤ 3
  | [], d, _, t, ht => by rw [tyEs] at ht; cases ht
  | e :: r, d, h2, t, ht => by
    obtain ⟨h5, h6⟩ := vEs_cons h2
    rw [tyEs] at ht
    by_cases h7 : (tyE f e).2 = 0
    · rw [if_neg (fun x => x h7)] at ht
      rcases List.mem_cons.1 ht with rfl | h8
      · rcases ty_rng f e h5 with h | h
        · exact h.2
        · omega
      · exact tys_in f r h6 t h8
    · rw [if_pos h7] at ht; cases ht
theorem acc_un {o : Int} (ho : o = 9 ∨ o = 18 ∨ o = 20 ∨ o = 21 ∨ o = 22 ∨ o = 23 ∨ o = 24) {a : Int} (ha : 1 ≤ a ∧ a ≤ 3) : acc (inE o) [a] = decide (a = unW o) ∧ outE o = unO o := by
  rcases rng_cases ha with rfl | rfl | rfl <;> rcases ho with rfl | rfl | rfl | rfl | rfl | rfl | rfl <;> decide
theorem acc_bi {o : Int} (ho : 4 ≤ o ∧ o ≤ 19 ∧ o ≠ 9 ∧ o ≠ 18) {a b : Int} (ha : 1 ≤ a ∧ a ≤ 3) (hb : 1 ≤ b ∧ b ≤ 3) :
    acc (inE o) [a, b] = decide (biO o a b ≠ 0) ∧ (biO o a b ≠ 0 → biO o a b = outE o) := by
  have h7 : o = 4 ∨ o = 5 ∨ o = 6 ∨ o = 7 ∨ o = 8 ∨ o = 10 ∨ o = 11 ∨ o = 12 ∨ o = 13 ∨ o = 14 ∨ o = 15 ∨ o = 16 ∨ o = 17 ∨ o = 19 := by omega
  rcases rng_cases ha with rfl | rfl | rfl <;> rcases rng_cases hb with rfl | rfl | rfl <;>
  rcases h7 with rfl | rfl | rfl | rfl | rfl | rfl | rfl | rfl | rfl | rfl | rfl | rfl | rfl | rfl <;> decide
theorem ty_un (f : Env) {o n : Int} {s : ByteArray} {l : List Ex} {d : Nat} (h : vE (.mk o n s l) d = 0) (ha : arity o = 1) :
    ∃ x, l = [x] ∧ vE x (d + 1) = 0 ∧ tyE f (.mk o n s l) = if (tyE f x).2 ≠ 0 then (0, (tyE f x).2) else if (tyE f x).1 ≠ unW o then (0, 10) else (unO o, 0) := by
  obtain ⟨h1, h2⟩ := vE_open h
  obtain ⟨-, h3, -⟩ := node_open h1
  obtain ⟨x, rfl⟩ := len1 (l := l) (h3.trans ha)
  obtain ⟨h5, -⟩ := vEs_cons h2
  refine ⟨x, rfl, h5, ?_⟩
  rcases arity_cases (o := o) (by omega) with ⟨h4, -⟩ | ⟨-, h4⟩ | ⟨h4, -⟩
  · omega
  · rw [ty_node f (by omega)]
    by_cases h6 : (tyE f x).2 = 0
    · simp only [tys_cons f h6, tys_nil, h6, ne_eq, not_true_eq_false, ↓reduceIte]
      rcases ty_rng f x h5 with h7 | h7
      · obtain ⟨h8, h9⟩ := acc_un h4 h7.2
        rw [h8, h9]
        by_cases hu : (tyE f x).1 = unW o
        · rw [if_pos (decide_eq_true hu), if_neg (fun y => y hu)]
        · rw [if_neg (by simpa using hu), if_pos hu]
      · omega
    · simp only [tys_cons_bad f h6, h6, ne_eq, not_false_eq_true, ↓reduceIte]
  · omega
theorem ty_bi (f : Env) {o n : Int} {s : ByteArray} {l : List Ex} {d : Nat} (h : vE (.mk o n s l) d = 0) (ha : arity o = 2) :
    ∃ x y, l = [x, y] ∧ vE x (d + 1) = 0 ∧ vE y (d + 1) = 0 ∧ tyE f (.mk o n s l) = if (tyE f x).2 ≠ 0 then (0, (tyE f x).2) else if (tyE f y).2 ≠ 0 then (0, (tyE f y).2)
      else if biO o (tyE f x).1 (tyE f y).1 = 0 then (0, 10) else (biO o (tyE f x).1 (tyE f y).1, 0) := by
  obtain ⟨h1, h2⟩ := vE_open h
  obtain ⟨-, h3, -⟩ := node_open h1
  obtain ⟨x, y, rfl⟩ := len2 (l := l) (h3.trans ha)
  obtain ⟨h5, h2'⟩ := vEs_cons h2
  obtain ⟨h6, -⟩ := vEs_cons h2'
  refine ⟨x, y, rfl, h5, h6, ?_⟩
  rcases arity_cases (o := o) (by omega) with ⟨h4, -⟩ | ⟨h4, -⟩ | ⟨-, h4⟩
  · omega
  · omega
  · rw [ty_node f (by omega)]
    by_cases h7 : (tyE f x).2 = 0
    · by_cases h8 : (tyE f y).2 = 0
      · simp only [tys_cons f h7, tys_cons f h8, tys_nil, h7, h8, ne_eq, not_true_eq_false, ↓reduceIte]
        rcases ty_rng f x h5 with h9 | h9
        · rcases ty_rng f y h6 with h10 | h10
          · obtain ⟨h11, h12⟩ := acc_bi h4 h9.2 h10.2
            rw [h11]
            by_cases hu : biO o (tyE f x).1 (tyE f y).1 = 0
            · rw [if_neg (by simpa using hu), if_pos hu]
            · rw [if_pos (decide_eq_true hu), if_neg hu, h12 hu]
          · omega
        · omega
      · simp only [tys_cons f h7, tys_cons_bad f h8, h7, h8, ne_eq, not_true_eq_false, not_false_eq_true, ↓reduceIte]
    · simp only [tys_cons_bad f h7, h7, ne_eq, not_false_eq_true, ↓reduceIte]
theorem ty_absent (f : Env) {e : Ex} (h : absent e = true) : tyE f e = (0, 0) := by
  obtain ⟨o, n, s, l⟩ := e
  unfold absent at h
  simp only [Bool.and_eq_true, decide_eq_true_iff, List.isEmpty_iff] at h
  obtain ⟨⟨⟨h1, -⟩, -⟩, h4⟩ := h
  have h1' : o = 0 := h1
  have h4' : l = [] := h4
  subst h1'; subst h4'
  rw [tyE, tyEs]; rfl

/-! ### more variables -/

def Sub (f g : Env) : Prop := ∀ x t, f x = some t → g x = some t
theorem tyV_sub {f g : Env} (h : Sub f g) {s : ByteArray} (h0 : (tyV f s).2 = 0) : tyV g s = tyV f s := by
  unfold tyV at h0 ⊢
  cases hf : f s with
  | none => rw [hf] at h0; cases h0
  | some t => rw [h s t hf]
mutual
theorem ty_sub {f g : Env} (h : Sub f g) : ∀ e : Ex, (tyE f e).2 = 0 → tyE g e = tyE f e
  | .mk o n s l, h0 => by
    rw [tyE] at h0 ⊢
    rw [tyE]
    by_cases ho : o = 3
    · rw [if_pos ho] at h0 ⊢; rw [if_pos ho]; exact tyV_sub h h0
    · rw [if_neg ho] at h0 ⊢
      rw [if_neg ho]
      by_cases h4 : (tyEs f l).2 = 0
      · rw [tys_sub h l h4]
      · rw [if_pos h4] at h0; exact absurd h0 h4
theorem tys_sub {f g : Env} (h : Sub f g) : ∀ l : List Ex, (tyEs f l).2 = 0 → tyEs g l = tyEs f l
  | [], _ => by rw [tyEs, tyEs]
  | e :: r, h0 => by
    rw [tyEs] at h0 ⊢
    rw [tyEs]
    by_cases h7 : (tyE f e).2 = 0
    · rw [if_neg (fun x => x h7)] at h0
      rw [ty_sub h e h7, tys_sub h r h0]
    · rw [if_pos h7] at h0; exact absurd h0 h7
end
theorem look_cons (p : Pm) (r : List Pm) (x : ByteArray) : look (p :: r) x = if p.name = x then some p.ty else look r x := by rw [look]
theorem look_app (l r : List Pm) (x : ByteArray) : look (l ++ r) x = match look l x with | some t => some t | none => look r x := by
  induction l with
  | nil => rfl
  | cons p l ih =>
    rw [List.cons_append, look_cons, look_cons]
    by_cases h : p.name = x
    · simp only [if_pos h]
    · simp only [if_neg h]; exact ih
theorem look_more (l r : List Pm) : Sub (look l) (look (l ++ r)) := fun x t h => by rw [look_app, h]
theorem look_none {l : List Pm} {x : ByteArray} : look l x = none ↔ x ∉ l.map Pm.name := by
  induction l with
  | nil => simp [look]
  | cons p l ih =>
    unfold look
    by_cases h : p.name = x
    · simp [h]
    · simp only [if_neg h, ih, List.map_cons, List.mem_cons, not_or]
      exact ⟨fun a => ⟨fun b => h b.symm, a⟩, fun a => a.2⟩
end Go.Proofs.YtnelpgeiioflmaaGreatDoor.Y
