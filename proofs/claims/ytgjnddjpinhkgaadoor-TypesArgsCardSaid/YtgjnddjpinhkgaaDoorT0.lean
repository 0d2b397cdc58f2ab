/-
  Declarations of texts that lie merged: what further laws need of YPlain.
-/
import Derived.Test.YtgjnddjpinhkgaaDoorQYPlain
namespace Go.Proofs.YtgjnddjpinhkgaaDoor.Y
open A (Ex St Pm Pr V arity vE vEs nodeE absent)
/-! the specification's tables -/
def unW (o : Int) : Int := if o = 9 ∨ o = 20 then 1 else if o = 18 then 3 else 2
def unO (o : Int) : Int := if o = 9 ∨ o = 21 ∨ o = 22 then 1 else if o = 20 ∨ o = 23 then 2 else 3
def biO (o a b : Int) : Int :=
  if a ≠ b then 0 else if (4 ≤ o ∧ o ≤ 8) ∧ a = 1 then 1
  else if o = 10 ∨ o = 11 ∨ (12 ≤ o ∧ o ≤ 15 ∧ a ≠ 3) ∨ ((o = 16 ∨ o = 17) ∧ a = 3) then 3
  else if o = 19 ∧ a = 2 then 2 else 0
theorem len1 {l : List Ex} (h : (l.length : Int) = 1) : ∃ x, l = [x] := by
  cases l with
  | nil => simp at h
  | cons a r => cases r with
    | nil => exact ⟨a, rfl⟩
    | cons b q => simp at h; omega
theorem len2 {l : List Ex} (h : (l.length : Int) = 2) : ∃ x y, l = [x, y] := by
  cases l with
  | nil => simp at h
  | cons a r => cases r with
    | nil => simp at h
    | cons b q => cases q with
      | nil => exact ⟨a, b, rfl⟩
      | cons c q => simp at h; omega
theorem ty_leaf (f : Env) {o n : Int} {s : ByteArray} {l : List Ex} {d : Nat} (h : vE (.mk o n s l) d = 0) (ha : arity o = 0) :
    l = [] ∧ tyE f (.mk o n s l) = if o = 3 then tyV f s else if o = 2 then (2, 0) else (1, 0) := by
  obtain ⟨h1, h2⟩ := vE_open h
  obtain ⟨-, h3, -⟩ := node_open h1
  have hl : l = [] := len0 (h3.trans ha)
  subst hl
  refine ⟨rfl, ?_⟩
  rcases arity_cases (o := o) (by omega) with ⟨-, h4⟩ | ⟨h4, -⟩ | ⟨h4, -⟩
  · rw [tyE, tyEs]
    rcases h4 with rfl | rfl | rfl | rfl | rfl | rfl <;> rfl
  · omega
  · omega
theorem acc_un {o : Int} (ho : o = 9 ∨ o = 18 ∨ o = 20 ∨ o = 21 ∨ o = 22 ∨ o = 23 ∨ o = 24) {a : Int} (ha : 1 ≤ a ∧ a ≤ 3) : acc (inE o) [a] = decide (a = unW o) ∧ outE o = unO o := by
  rcases rng_cases ha with rfl | rfl | rfl <;> rcases ho with rfl | rfl | rfl | rfl | rfl | rfl | rfl <;> decide
theorem acc_bi {o : Int} (ho : 4 ≤ o ∧ o ≤ 19 ∧ o ≠ 9 ∧ o ≠ 18) {a b : Int} (ha : 1 ≤ a ∧ a ≤ 3) (hb : 1 ≤ b ∧ b ≤ 3) :
    acc (inE o) [a, b] = decide (biO o a b ≠ 0) ∧ (biO o a b ≠ 0 → biO o a b = outE o) := by
  have h7 : o = 4 ∨ o = 5 ∨ o = 6 ∨ o = 7 ∨ o = 8 ∨ o = 10 ∨ o = 11 ∨ o = 12 ∨ o = 13 ∨ o = 14 ∨ o = 15 ∨ o = 16 ∨ o = 17 ∨ o = 19 := by omega
  rcases rng_cases ha with rfl | rfl | rfl <;> rcases rng_cases hb with rfl | rfl | rfl <;>
  rcases h7 with rfl | rfl | rfl | rfl | rfl | rfl | rfl | rfl | rfl | rfl | rfl | rfl | rfl | rfl <;> decide
theorem ty_un (f : Env) {o n : Int} {s : ByteArray} {l : List Ex} {d : Nat} (h : vE (.mk o n s l) d = 0) (ha : arity o = 1) :
    ∃ x, l = [x] ∧ vE x (d + 1) = 0 ∧ tyE f (.mk o n s l) = if (tyE f x).2 ≠ 0 then (0, (tyE f x).2) else if (tyE f x).1 ≠ unW o then (0, 10) else (unO o, 0) := by
  obtain ⟨h1, h2⟩ := vE_open h
  obtain ⟨-, h3, -⟩ := node_open h1
  obtain ⟨x, rfl⟩ := len1 (l := l) (h3.trans ha)
  obtain ⟨h5, -⟩ := vEs_cons h2
  refine ⟨x, rfl, h5, ?_⟩
  rcases arity_cases (o := o) (by omega) with ⟨h4, -⟩ | ⟨-, h4⟩ | ⟨h4, -⟩
  · omega
  · rw [ty_node f (by omega)]
    by_cases h6 : (tyE f x).2 = 0
    · simp only [tys_cons f h6, tys_nil, h6, ne_eq, not_true_eq_false, ↓reduceIte]
      rcases ty_rng f x h5 with h7 | h7
      · obtain ⟨h8, h9⟩ := acc_un h4 h7.2
        rw [h8, h9]
        by_cases hu : (tyE f x).1 = unW o
        · rw [if_pos (decide_eq_true hu), if_neg (fun y => y hu)]
        · rw [if_neg (by simpa using hu), if_pos hu]
      · omega
    · simp only [tys_cons_bad f h6, h6, ne_eq, not_false_eq_true, ↓reduceIte]
  · omega
theorem ty_bi (f : Env) {o n : Int} {s : ByteArray} {l : List Ex} {d : Nat} (h : vE (.mk o n s l) d = 0) (ha : arity o = 2) :
    ∃ x y, l = [x, y] ∧ vE x (d + 1) = 0 ∧ vE y (d + 1) = 0 ∧ tyE f (.mk o n s l) = if (tyE f x).2 ≠ 0 then (0, (tyE f x).2) else if (tyE f y).2 ≠ 0 then (0, (tyE f y).2)
      else if biO o (tyE f x).1 (tyE f y).1 = 0 then (0, 10) else (biO o (tyE f x).1 (tyE f y).1, 0) := by
  obtain ⟨h1, h2⟩ := vE_open h
  obtain ⟨-, h3, -⟩ := node_open h1
  obtain ⟨x, y, rfl⟩ := len2 (l := l) (h3.trans ha)
  obtain ⟨h5, h2'⟩ := vEs_cons h2
  obtain ⟨h6, -⟩ := vEs_cons h2'
  refine ⟨x, y, rfl, h5, h6, ?_⟩
  rcases arity_cases (o := o) (by omega) with ⟨h4, -⟩ | ⟨h4, -⟩ | ⟨-, h4⟩
  · omega
  · omega
  · rw [ty_node f (by omega)]
    by_cases h7 : (tyE f x).2 = 0
    · by_cases h8 : (tyE f y).2 = 0
      · simp only [tys_cons f h7, tys_cons f h8, tys_nil, h7, h8, ne_eq, not_true_eq_false, ↓reduceIte]
        rcases ty_rng f x h5 with h9 | h9
        · rcases ty_rng f y h6 with h10 | h10
          · obtain ⟨h11, h12⟩ := acc_bi h4 h9.2 h10.2
            rw [h11]
            by_cases hu : biO o (tyE f x).1 (tyE f y).1 = 0
            · rw [if_neg (by simpa using hu), if_pos hu]
            · rw [if_pos (decide_eq_true hu), if_neg hu, h12 hu]
          · omega
        · omega
      · simp only [tys_cons f h7, tys_cons_bad f h8, h7, h8, ne_eq, not_true_eq_false, not_false_eq_true, ↓reduceIte]
    · simp only [tys_cons_bad f h7, h7, ne_eq, not_false_eq_true, ↓reduceIte]
/-! ### more variables -/
end Go.Proofs.YtgjnddjpinhkgaaDoor.Y
