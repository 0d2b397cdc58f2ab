/-
  Plain mathematics of layer 14: the tainted variables of a procedure that passes the check; what the laws ask of them.
-/
import Derived.Test.YtnelpgeiioflmaaGreatDoorSFPlain
import Derived.Test.YtnelpgeiioflmaaGreatDoorSYProc
namespace Go.Proofs.YtnelpgeiioflmaaGreatDoor.F
open A (Ex St Pm Pr V stE preB preS preR preE preEs absent vE vEs arity names walk Good good_of)
open Y (isIn isIn_iff isIn_no chk chk_main Chk)

theorem ok_walk {p : Pr} (h : (chk p).2 = 0) : walk p = preB p.body 1 ∧ ∀ s d, V.st s d ∈ preB p.body 1 → stE s d = 0 := by
  obtain ⟨-, -, h3, h4⟩ := A.val_parts ((chk_main p).2 h).val
  have hw := A.walk_full h4
  rw [hw] at h3
  exact ⟨hw, A.first_each h3⟩
mutual
theorem nmS_in : ∀ (s : St) (d : Nat) (x : ByteArray), x ∈ nmS s → ∃ t k, V.st t k ∈ preS s d ∧ t.name = x ∧ x.size ≠ 0
  | .mk o nm mx a b bd el, d, x, h => by
    rw [nmS, List.mem_append, List.mem_append] at h
    rw [preS]
    rcases h with h | h | h
    · by_cases h0 : nm.size ≠ 0
      · rw [if_pos h0, List.mem_singleton] at h
        subst h
        exact ⟨_, _, List.mem_cons_self, rfl, h0⟩
      · rw [if_neg h0] at h; cases h
    · obtain ⟨t, k, hm, h1, h2⟩ := nmB_in bd (d + 1) x h
      exact ⟨t, k, by simp [hm], h1, h2⟩
    · obtain ⟨t, k, hm, h1, h2⟩ := nmB_in el (d + 1) x h
      exact ⟨t, k, by simp [hm], h1, h2⟩
theorem nmB_in : ∀ (l : List St) (d : Nat) (x : ByteArray), x ∈ nmB l → ∃ t k, V.st t k ∈ preB l d ∧ t.name = x ∧ x.size ≠ 0
  | [], _, _, h => by rw [nmB] at h; cases h
  | s :: r, d, x, h => by
    rw [nmB, List.mem_append] at h
    rw [preB]
    rcases h with h | h
    · obtain ⟨t, k, hm, h1, h2⟩ := nmS_in s d x h
      exact ⟨t, k, List.mem_append.2 (Or.inl hm), h1, h2⟩
    · obtain ⟨t, k, hm, h1, h2⟩ := nmB_in r d x h
      exact ⟨t, k, List.mem_append.2 (Or.inr hm), h1, h2⟩
end
theorem op_named {s : St} {d : Nat} (h : Good s d) (hn : s.name.size ≠ 0) : s.op = 1 ∨ s.op = 2 ∨ s.op = 6 := by
  have h1 := h.form
  unfold A.badS at h1
  simp only [Bool.or_eq_false_iff, Bool.and_eq_false_iff] at h1
  obtain ⟨⟨⟨⟨⟨⟨-, h2⟩, -⟩, -⟩, -⟩, -⟩, -⟩ := h1
  rcases h2 with h2 | h2
  · have h3 : ¬s.op = 1 → ¬s.op = 2 → s.op = 6 := by simpa [A.uN] using h2
    by_cases a1 : s.op = 1
    · exact Or.inl a1
    · by_cases a2 : s.op = 2
      · exact Or.inr (Or.inl a2)
      · exact Or.inr (Or.inr (h3 a1 a2))
  · simp at h2; exact absurd (by rw [h2]; rfl) hn
theorem name_pos {s : St} {d : Nat} (h : Good s d) (ho : s.op = 1 ∨ s.op = 2 ∨ s.op = 6) : s.name.size ≠ 0 := by
  have h1 := h.name (by simpa [A.uN] using ho)
  intro h0
  have h2 : s.name = ⟨#[]⟩ := by
    rcases hs : s.name with ⟨a⟩
    rw [hs] at h0
    congr 1
    exact Array.eq_empty_of_size_eq_zero h0
  rw [h2] at h1
  cases h1
theorem tnt_names {p : Pr} (h : (chk p).2 = 0) : ∀ x ∈ tnt p.body, x ∈ names p := by
  intro x hx
  obtain ⟨hw, ho⟩ := ok_walk h
  have hc := (chk_main p).2 h
  obtain ⟨t, k, hm, rfl, h0⟩ := nmB_in p.body 1 x (tnt_sub p.body x hx)
  rcases op_named (good_of (ho t k hm)) h0 with h1 | h1 | h1
  · exact List.mem_append.2 (Or.inr (List.mem_filterMap.2 ⟨_, by rw [hw]; exact hm, by rw [A.V.decl, if_pos (Or.inl h1)]⟩))
  · obtain ⟨ty, -, -, hg, -⟩ := (show Y.OkSt (Y.look (chk p).1) t from hc.ok (V.st t k) (by rw [hw]; exact hm)).set (Or.inr h1)
    obtain ⟨q, hq, hn, -⟩ := Y.look_some hg
    rw [← hc.names, ← hn]
    exact List.mem_map_of_mem hq
  · exact List.mem_append.2 (Or.inr (List.mem_filterMap.2 ⟨_, by rw [hw]; exact hm, by rw [A.V.decl, if_pos (Or.inr h1)]⟩))
def taint (p : Pr) : List ByteArray := if (chk p).2 ≠ 0 then [] else (names p).filter (mem (tnt p.body))
def keyV (T : ByteArray → Bool) : V → Bool
  | .st s _ => (decide (s.op = 3) || decide (s.op = 4)) && tE T s.a
  | .ex e _ => acc e.op && (match e.args with | k :: _ => tE T k | [] => false)
def brV (T : ByteArray → Bool) : V → Bool
  | .st s _ => ((decide (s.op = 5) || decide (s.op = 6)) && tE T s.a) || (decide (s.op = 6) && tE T s.b)
  | .ex _ _ => false
def keysT (p : Pr) : Bool := if (chk p).2 ≠ 0 then false else (walk p).any (keyV (mem (tnt p.body)))
def ctrlT (p : Pr) : Bool := if (chk p).2 ≠ 0 then false else (walk p).any (brV (mem (tnt p.body)))
def indep (p : Pr) : Bool := decide ((chk p).2 = 0) && !keysT p
theorem taint_mem {p : Pr} (h : (chk p).2 = 0) : mem (taint p) = mem (tnt p.body) := funext fun x => by
  have hi : mem (taint p) x = true ↔ mem (tnt p.body) x = true := by
    rw [mem_iff, taint, if_neg (fun z => z h), List.mem_filter]
    exact ⟨fun z => z.2, fun z => ⟨tnt_names h x (mem_iff.1 z), z⟩⟩
  cases h1 : mem (taint p) x <;> cases h2 : mem (tnt p.body) x
  · rfl
  · rw [hi.2 h2] at h1; cases h1
  · rw [hi.1 h1] at h2; cases h2
  · rfl
theorem taint_in {p : Pr} : ∀ x ∈ taint p, x ∈ names p := by
  intro x hx
  unfold taint at hx
  split at hx
  · cases hx
  · exact (List.mem_filter.1 hx).1
theorem taint_of {p : Pr} {v : List ByteArray} (h : (chk p).2 = 0) (hv : Least p.body v) : taint p = (names p).filter (mem v) := by
  rw [taint, if_neg (fun z => z h), (tnt_least p.body).same hv]
/-! closed, as the law has it -/
mutual
def lcS (T : ByteArray → Bool) (u : Bool) : St → Bool
  | .mk o nm _ a b bd el => !(here T u o a b && (decide (o = 1) || decide (o = 2) || decide (o = 6)) && !T nm) && lcB T (here T u o a b) bd && lcB T (here T u o a b) el
def lcB (T : ByteArray → Bool) (u : Bool) : List St → Bool
  | [] => true
  | s :: r => lcS T u s && lcB T u r
end
mutual
theorem lcS_of {T : ByteArray → Bool} : ∀ (s : St) (d : Nat) (u : Bool), (∀ t k, V.st t k ∈ preS s d → stE t k = 0) → clS T u s → lcS T u s = true
  | .mk o nm mx a b bd el, d, u, ho, h => by
    rw [preS] at ho
    rw [clS] at h
    rw [lcS, lcB_of bd (d + 1) _ (fun t k hm => ho t k (by simp [hm])) h.2.1, lcB_of el (d + 1) _ (fun t k hm => ho t k (by simp [hm])) h.2.2]
    have hg := good_of (ho _ _ List.mem_cons_self)
    simp only [Bool.and_true, Bool.not_eq_true', Bool.and_eq_false_iff]
    by_cases h1 : o = 1 ∨ o = 2 ∨ o = 6
    · cases h2 : here T u o a b
      · exact Or.inl (Or.inl rfl)
      · exact Or.inr (by rw [h.1 h2 (name_pos hg h1)]; rfl)
    · refine Or.inl (Or.inr ?_)
      simp only [Bool.or_eq_false_iff, decide_eq_false_iff_not]
      exact ⟨⟨fun z => h1 (Or.inl z), fun z => h1 (Or.inr (Or.inl z))⟩, fun z => h1 (Or.inr (Or.inr z))⟩
theorem lcB_of {T : ByteArray → Bool} : ∀ (l : List St) (d : Nat) (u : Bool), (∀ t k, V.st t k ∈ preB l d → stE t k = 0) → clB T u l → lcB T u l = true
  | [], _, _, _, _ => by rw [lcB]
  | s :: r, d, u, ho, h => by
    rw [preB] at ho
    rw [clB] at h
    rw [lcB, lcS_of s d u (fun t k hm => ho t k (List.mem_append.2 (Or.inl hm))) h.1, lcB_of r d u (fun t k hm => ho t k (List.mem_append.2 (Or.inr hm))) h.2]
    rfl
end
theorem closed_main {p : Pr} (h : (chk p).2 = 0) : lcB (mem (taint p)) false p.body = true := by
  rw [taint_mem h]
  exact lcB_of p.body 1 false (ok_walk h).2 (tnt_least p.body).cl
/-! without a read -/
mutual
theorem tE_absent {T : ByteArray → Bool} : ∀ (e : Ex), absent e = true → tE T e = false
  | .mk o n s l, h => by
    unfold absent at h
    simp only [Bool.and_eq_true, decide_eq_true_eq, List.isEmpty_iff] at h
    obtain ⟨⟨⟨h1, -⟩, -⟩, h2⟩ := h
    have h1' : o = 0 := h1
    have h2' : l = [] := h2
    subst h1' h2'
    rw [tE, tEs]
    simp [acc]
end
mutual
theorem tE_up {T : ByteArray → Bool} : ∀ (e : Ex) (r : Bool) (x : Ex) (q : Bool), V.ex x q ∈ preE e r → tE T x = true → tE T e = true
  | .mk o n s l, r, x, q, h, hx => by
    rw [preE] at h
    rcases List.mem_cons.1 h with h | h
    · injection h with h1 h2; rw [← h1]; exact hx
    · rw [tE, tEs_up l x q h hx, Bool.or_true]
theorem tEs_up {T : ByteArray → Bool} : ∀ (l : List Ex) (x : Ex) (q : Bool), V.ex x q ∈ preEs l → tE T x = true → tEs T l = true
  | [], x, q, h, hx => by rw [preEs] at h; cases h
  | e :: r, x, q, h, hx => by
    rw [preEs, List.mem_append] at h
    rw [tEs]
    rcases h with h | h
    · rw [tE_up e false x q h hx]; rfl
    · rw [tEs_up r x q h hx, Bool.or_true]
end
end Go.Proofs.YtnelpgeiioflmaaGreatDoor.F
