/-
  Plain mathematics of layer 8, without the program: renaming keeps what is valid, and can be undone; the bounds of valid procedures.
-/
import Derived.Test.YtkjefigebdbkaaaDoorTAPlain
namespace Go.Proofs.YtkjefigebdbkaaaDoor.A
open L (Str isName prt)

/-! ### renaming -/

theorem swap_eq {f t x y : ByteArray} (hx : x ≠ t) (hy : y ≠ t) : decide (swap f t x = swap f t y) = decide (x = y) := by
  refine decide_eq_decide.2 ?_
  unfold swap
  by_cases h1 : x = f <;> by_cases h2 : y = f
  · rw [if_pos h1, if_pos h2, h1, h2]; simp
  · rw [if_pos h1, if_neg h2, h1]; exact ⟨fun h => absurd h.symm hy, fun h => absurd h.symm h2⟩
  · rw [if_neg h1, if_pos h2, h2]; exact ⟨fun h => absurd h hx, fun h => absurd h h1⟩
  · rw [if_neg h1, if_neg h2]

/-! ### what a valid procedure is -/

theorem val_parts {p : Pr} (h : valE p = 0) : nam p.name = true ∧ parE p.params = 0 ∧ firstE (walk p) = 0 ∧ (walk p).length ≤ 400 := by
  unfold valE at h
  cases h1 : nam p.name
  · rw [if_pos h1] at h; cases h
  · rw [if_neg (by rw [h1]; decide)] at h
    by_cases h2 : parE p.params = 0
    · rw [if_neg (fun x => x h2)] at h
      by_cases h3 : firstE (walk p) = 0
      · rw [if_neg (fun x => x h3)] at h
        by_cases h4 : 400 < (walk p).length
        · rw [if_pos h4] at h; cases h
        · exact ⟨rfl, h2, h3, by omega⟩
      · rw [if_pos h3] at h; exact absurd h h3
    · rw [if_pos h2] at h; exact absurd h h2
theorem walk_full {p : Pr} (h : (walk p).length ≤ 400) : walk p = preB p.body 1 := by
  unfold walk at h ⊢
  rw [List.length_take] at h
  exact List.take_of_length_le (by omega)
theorem first_each : ∀ {l : List V}, firstE l = 0 → ∀ s d, V.st s d ∈ l → stE s d = 0
  | .st s0 d0 :: r, h, s, d, hm => by
    rw [firstE] at h
    by_cases h0 : stE s0 d0 = 0
    · rw [if_neg (fun x => x h0)] at h
      rcases List.mem_cons.1 hm with h1 | h1
      · cases h1; exact h0
      · exact first_each h s d h1
    · rw [if_pos h0] at h; exact absurd h h0
  | .ex e b :: r, h, s, d, hm => by
    rw [firstE] at h
    rcases List.mem_cons.1 hm with h1 | h1
    · cases h1
    · exact first_each h s d h1
structure Good (s : St) (d : Nat) : Prop where
  form : badS s = false
  most : badM s = false
  name : uN s.op = true → nam s.name = true
  a : uA s.op = true → vE s.a 1 = 0
  b : uB s.op = true → vE s.b 1 = 0
  depth : d ≤ 12
theorem good_of {s : St} {d : Nat} (h : stE s d = 0) : Good s d := by
  unfold stE at h
  cases h1 : badS s
  · rw [if_neg (by rw [h1]; decide)] at h
    cases h2 : badM s
    · rw [if_neg (by rw [h2]; decide)] at h
      cases h3 : (uN s.op && !nam s.name)
      · rw [if_neg (by rw [h3]; decide)] at h
        cases h4 : (uA s.op && !decide (vE s.a 1 = 0))
        · rw [if_neg (by rw [h4]; decide)] at h
          cases h5 : (uB s.op && !decide (vE s.b 1 = 0))
          · rw [if_neg (by rw [h5]; decide)] at h
            refine ⟨h1, h2, fun x => ?_, fun x => ?_, fun x => ?_, ?_⟩
            · rw [x] at h3; simpa using h3
            · rw [x] at h4; simpa using h4
            · rw [x] at h5; simpa using h5
            · by_cases hd : 12 < d
              · rw [if_pos hd] at h; cases h
              · omega
          · rw [if_pos h5] at h; rw [h] at h5; simp at h5
        · rw [if_pos h4] at h; rw [h] at h4; simp at h4
      · rw [if_pos h3] at h; cases h
    · rw [if_pos h2] at h; cases h
  · rw [if_pos h1] at h; cases h
theorem parF_each : ∀ (l : List Pm) (seen : List ByteArray), parF seen l = 0 → ∀ q ∈ l, nam q.name = true
  | p :: r, seen, h, q, hq => by
    rw [parF] at h
    cases h1 : nam p.name
    · rw [if_pos h1] at h; cases h
    · rw [if_neg (by rw [h1]; decide)] at h
      split at h
      · cases h
      · split at h
        · cases h
        · rcases List.mem_cons.1 hq with rfl | h2
          · exact h1
          · exact parF_each r _ h q h2
theorem par_each {l : List Pm} (h : parE l = 0) : l.length ≤ 6 ∧ ∀ q ∈ l, nam q.name = true := by
  unfold parE at h
  by_cases h6 : 6 < l.length
  · rw [if_pos h6] at h; cases h
  · rw [if_neg h6] at h; exact ⟨by omega, parF_each l [] h⟩
/-- a declared name is a name and occurs -/
theorem declared {p : Pr} (h : valE p = 0) {x : ByteArray} (hx : x ∈ names p) : nam x = true ∧ occurs p x = true := by
  obtain ⟨_, h2, h3, _⟩ := val_parts h
  unfold names at hx
  rcases List.mem_append.1 hx with h1 | h1
  · obtain ⟨q, hq, rfl⟩ := List.mem_map.1 h1
    exact ⟨(par_each h2).2 q hq, by unfold occurs; rw [Bool.or_eq_true]; exact Or.inl (List.any_eq_true.2 ⟨q, hq, decide_eq_true rfl⟩)⟩
  · obtain ⟨v, hv, hd⟩ := List.mem_filterMap.1 h1
    cases v with
    | ex e r => cases hd
    | st s d =>
      have hg := good_of (first_each h3 s d hv)
      unfold V.decl at hd
      simp only at hd
      split at hd
      · rename_i ho
        cases hd
        refine ⟨hg.name (by unfold uN; exact decide_eq_true (by omega)), ?_⟩
        unfold occurs
        rw [Bool.or_eq_true]
        exact Or.inr (List.any_eq_true.2 ⟨_, hv, decide_eq_true rfl⟩)
      · cases hd
theorem any_mem {l : List ByteArray} {x : ByteArray} : l.any (fun y => decide (y = x)) = true ↔ x ∈ l := by
  rw [List.any_eq_true]
  exact ⟨fun ⟨y, hy, h⟩ => by rw [← of_decide_eq_true h]; exact hy, fun h => ⟨x, h, decide_eq_true rfl⟩⟩
end Go.Proofs.YtkjefigebdbkaaaDoor.A
