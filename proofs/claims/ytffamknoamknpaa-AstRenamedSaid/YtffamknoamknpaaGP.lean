/-
  Plain mathematics of layer 8: a valid procedure's bounds.
-/
import Derived.Test.YtffamknoamknpaaGB
namespace Go.Proofs.Ytffamknoamknpaa.A
open L (Str isName prt size_len)

theorem nam_small {s : ByteArray} (h : nam s = true) : s.size ≤ 16 := by
  unfold nam at h
  unfold isName at h
  simp only [Bool.and_eq_true, decide_eq_true_eq] at h
  have h1 := h.1.1.1
  rwa [size_len]
theorem node_small {e : Ex} {d : Nat} (h : nodeE e d = 0) : e.s.size ≤ 64 := by
  unfold nodeE at h
  split at h
  · cases h
  · rename_i h1
    split at h
    · cases h
    · rename_i h2
      split at h
      · cases h
      · rename_i h3
        by_cases hs : e.s.size = 0
        · omega
        · by_cases h4 : e.op = 3
          · have : nam e.s = true := by
              cases hn : nam e.s
              · exact absurd ⟨h4, hn⟩ h2
              · rfl
            have := nam_small this
            omega
          · by_cases h5 : e.op = 2
            · have : plain e.s = true := by
                cases hn : plain e.s
                · exact absurd (Or.inr (Or.inl ⟨h5, hn⟩)) h3
                · rfl
              unfold plain at this
              simp only [Bool.and_eq_true, decide_eq_true_eq] at this
              exact this.1
            · exact absurd (Or.inr (Or.inr ⟨h5, h4, hs⟩)) h1
mutual
theorem vE_count : ∀ (e : Ex) (d : Nat) (r : Bool), vE e d = 0 → cE e ≤ 2 * (preE e r).length
  | .mk o n s l, d, r, h => by
    rw [vE] at h
    by_cases h0 : nodeE (.mk o n s l) d = 0
    · rw [if_neg (fun x => x h0)] at h
      have h1 : s.size ≤ 64 := node_small h0
      have h2 := vEs_count l (d + 1) h
      rw [cE, preE, List.length_cons]
      omega
    · rw [if_pos h0] at h; exact absurd h h0
theorem vEs_count : ∀ (l : List Ex) (d : Nat), vEs l d = 0 → cEs l ≤ 2 * (preEs l).length
  | [], _, _ => by rw [cEs]; omega
  | e :: r, d, h => by
    rw [vEs] at h
    by_cases h0 : vE e d = 0
    · rw [if_neg (fun x => x h0)] at h
      have h1 := vE_count e d false h0
      have h2 := vEs_count r d h
      rw [cEs, preEs, List.length_append]
      omega
    · rw [if_pos h0] at h; exact absurd h h0
end
mutual
theorem preE_root : ∀ (a : Ex) (r : Bool) (e : Ex), V.ex e true ∈ preE a r → e = a ∧ r = true
  | .mk o n s l, r, e, h => by
    rw [preE] at h
    rcases List.mem_cons.1 h with h | h
    · injection h with h1 h2
      exact ⟨h1, h2.symm⟩
    · exact absurd h (preEs_root l e)
theorem preEs_root : ∀ (l : List Ex) (e : Ex), ¬ V.ex e true ∈ preEs l
  | [], e, h => by rw [preEs] at h; cases h
  | a :: r, e, h => by
    rw [preEs] at h
    rcases List.mem_append.1 h with h | h
    · exact absurd (preE_root a false e h).2 (by decide)
    · exact preEs_root r e h
end
theorem preR_root {a e : Ex} (h : V.ex e true ∈ preR a) : e = a ∧ absent a = false ∧ preR a = preE a true := by
  unfold preR at h ⊢
  split at h
  · cases h
  · rename_i h0
    exact ⟨(preE_root a true e h).1, by simpa using h0, if_neg h0⟩
theorem root_ok {s : St} {d : Nat} (hg : stE s d = 0) {e : Ex} (h : V.ex e true ∈ preR s.a ∨ V.ex e true ∈ preR s.b) : vE e 1 = 0 := by
  have hg := good_of hg
  have hf := hg.form
  unfold badS at hf
  simp only [Bool.or_eq_false_iff, Bool.and_eq_false_iff, Bool.not_eq_false'] at hf
  obtain ⟨⟨⟨⟨_, h1⟩, h2⟩, _⟩, _⟩ := hf
  rcases h with h | h
  · obtain ⟨rfl, ha, _⟩ := preR_root h
    rcases h1 with h1 | h1
    · exact hg.a h1
    · rw [ha] at h1; cases h1
  · obtain ⟨rfl, ha, _⟩ := preR_root h
    rcases h2 with h2 | h2
    · exact hg.b h2
    · rw [ha] at h2; cases h2
mutual
theorem preS_root : ∀ (s : St) (d : Nat), (∀ t k, V.st t k ∈ preS s d → stE t k = 0) → ∀ e, V.ex e true ∈ preS s d → vE e 1 = 0 ∧ (preE e true).length ≤ (preS s d).length
  | .mk o nm mx a b bd el, d, hg, e, h => by
    rw [preS] at hg h ⊢
    have h0 := hg _ _ List.mem_cons_self
    rcases List.mem_cons.1 h with h | h
    · cases h
    rcases List.mem_append.1 h with h | h
    · rcases List.mem_append.1 h with h | h
      · have hv : vE e 1 = 0 := root_ok h0 (List.mem_append.1 h)
        refine ⟨hv, ?_⟩
        rcases List.mem_append.1 h with h | h
        · obtain ⟨rfl, _, he⟩ := preR_root h
          simp only [List.length_cons, List.length_append, he]
          omega
        · obtain ⟨rfl, _, he⟩ := preR_root h
          simp only [List.length_cons, List.length_append, he]
          omega
      · have := preB_root bd (d + 1) (fun t k ht => hg t k (by simp [ht])) e h
        refine ⟨this.1, ?_⟩
        simp only [List.length_cons, List.length_append]
        omega
    · have := preB_root el (d + 1) (fun t k ht => hg t k (by simp [ht])) e h
      refine ⟨this.1, ?_⟩
      simp only [List.length_cons, List.length_append]
      omega
theorem preB_root : ∀ (l : List St) (d : Nat), (∀ t k, V.st t k ∈ preB l d → stE t k = 0) → ∀ e, V.ex e true ∈ preB l d → vE e 1 = 0 ∧ (preE e true).length ≤ (preB l d).length
  | [], d, _, e, h => by rw [preB] at h; cases h
  | s :: r, d, hg, e, h => by
    rw [preB] at hg h ⊢
    rcases List.mem_append.1 h with h | h
    · have := preS_root s d (fun t k ht => hg t k (List.mem_append.2 (Or.inl ht))) e h
      refine ⟨this.1, ?_⟩
      rw [List.length_append]; omega
    · have := preB_root r d (fun t k ht => hg t k (List.mem_append.2 (Or.inr ht))) e h
      refine ⟨this.1, ?_⟩
      rw [List.length_append]; omega
end
theorem exprs_valid {p : Pr} (h : valE p = 0) : ∀ e ∈ exprs p, vE e 1 = 0 ∧ cE e ≤ 800 := fun e he => by
  obtain ⟨_, _, h3, h4⟩ := val_parts h
  unfold exprs at he
  obtain ⟨v, hv, hr⟩ := List.mem_filterMap.1 he
  have hw := walk_full h4
  have hv' : V.ex e true ∈ walk p := by
    cases v with
    | st s d => cases hr
    | ex x r =>
      cases r
      · cases hr
      · injection hr with hr; subst hr; exact hv
  have hfe := fun t k ht => first_each h3 t k ht
  rw [hw] at hv' hfe h4
  obtain ⟨h5, h6⟩ := preB_root p.body 1 hfe e hv'
  have h7 := vE_count e 1 true h5
  exact ⟨h5, by omega⟩
theorem fold_max : ∀ (l : List Nat) (m n : Nat), m ≤ n → (∀ x ∈ l, x ≤ n) → l.foldl max m ≤ n
  | [], _, _, h, _ => h
  | x :: r, m, n, h, hl => by
    rw [List.foldl_cons]
    exact fold_max r (max m x) n (by have := hl x List.mem_cons_self; omega) fun y hy => hl y (List.mem_cons_of_mem _ hy)
theorem depth_valid {p : Pr} (h : valE p = 0) : depth p ≤ 12 := by
  obtain ⟨_, _, h3, _⟩ := val_parts h
  unfold depth
  refine fold_max _ 0 12 (by decide) fun x hx => ?_
  obtain ⟨v, hv, rfl⟩ := List.mem_map.1 hx
  cases v with
  | st s d => exact (good_of (first_each h3 s d hv)).depth
  | ex e r => exact Nat.zero_le _
theorem names_valid {p : Pr} (h : valE p = 0) : (names p).length ≤ 406 := by
  obtain ⟨_, h2, _, h4⟩ := val_parts h
  unfold names
  rw [List.length_append, List.length_map]
  have h1 := List.length_filterMap_le V.decl (walk p)
  have := (par_each h2).1
  omega
theorem exprs_count (p : Pr) : (exprs p).length ≤ nodes p := List.length_filterMap_le V.rooted (walk p)
end Go.Proofs.Ytffamknoamknpaa.A
