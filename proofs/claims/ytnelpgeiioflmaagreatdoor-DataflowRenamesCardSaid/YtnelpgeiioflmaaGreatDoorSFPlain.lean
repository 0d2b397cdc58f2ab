/-
  Plain mathematics of layer 14, without the program: tainted expressions, the specification's spreading, the least closed set.
-/
import Derived.Test.YtnelpgeiioflmaaGreatDoorSYCheck
namespace Go.Proofs.YtnelpgeiioflmaaGreatDoor.F
open A (Ex St Pm Pr V)
open Y (isIn isIn_iff isIn_no)

def acc (o : Int) : Bool := decide (o = 22) || decide (o = 23) || decide (o = 24)
mutual
def tE (T : ByteArray → Bool) : Ex → Bool
  | .mk o _ s l => acc o || (decide (o = 3) && T s) || tEs T l
def tEs (T : ByteArray → Bool) : List Ex → Bool
  | [] => false
  | e :: r => tE T e || tEs T r
end
def mem (l : List ByteArray) : ByteArray → Bool := fun x => isIn x l
theorem mem_iff {l : List ByteArray} {x : ByteArray} : mem l x = true ↔ x ∈ l := isIn_iff
def here (T : ByteArray → Bool) (u : Bool) (o : Int) (a b : Ex) : Bool := u || tE T a || (decide (o = 6) && tE T b)
def add (vars : List ByteArray) (h : Bool) (nm : ByteArray) : List ByteArray := if h = true ∧ nm.size ≠ 0 ∧ isIn nm vars = false then vars ++ [nm] else vars
mutual
def spS (vars : List ByteArray) (u : Bool) : St → List ByteArray
  | .mk o nm _ a b bd el => spB (spB (add vars (here (mem vars) u o a b) nm) (here (mem vars) u o a b) bd) (here (mem vars) u o a b) el
def spB (vars : List ByteArray) (u : Bool) : List St → List ByteArray
  | [] => vars
  | s :: r => spB (spS vars u s) u r
end
mutual
def clS (T : ByteArray → Bool) (u : Bool) : St → Prop
  | .mk o nm _ a b bd el => (here T u o a b = true → nm.size ≠ 0 → T nm = true) ∧ clB T (here T u o a b) bd ∧ clB T (here T u o a b) el
def clB (T : ByteArray → Bool) (u : Bool) : List St → Prop
  | [] => True
  | s :: r => clS T u s ∧ clB T u r
end
mutual
def nmS : St → List ByteArray
  | .mk _ nm _ _ _ bd el => (if nm.size ≠ 0 then [nm] else []) ++ (nmB bd ++ nmB el)
def nmB : List St → List ByteArray
  | [] => []
  | s :: r => nmS s ++ nmB r
end
mutual
theorem tE_mono {T T' : ByteArray → Bool} (h : ∀ x, T x = true → T' x = true) : ∀ e : Ex, tE T e = true → tE T' e = true
  | .mk o n s l => by
    rw [tE, tE]
    simp only [Bool.or_eq_true, Bool.and_eq_true, decide_eq_true_eq]
    rintro ((h1 | ⟨h1, h2⟩) | h1)
    · exact Or.inl (Or.inl h1)
    · exact Or.inl (Or.inr ⟨h1, h s h2⟩)
    · exact Or.inr (tEs_mono h l h1)
theorem tEs_mono {T T' : ByteArray → Bool} (h : ∀ x, T x = true → T' x = true) : ∀ l : List Ex, tEs T l = true → tEs T' l = true
  | [] => by rw [tEs]; exact fun h => by cases h
  | e :: r => by
    rw [tEs, tEs, Bool.or_eq_true, Bool.or_eq_true]
    rintro (h1 | h1)
    · exact Or.inl (tE_mono h e h1)
    · exact Or.inr (tEs_mono h r h1)
end
theorem here_mono {T T' : ByteArray → Bool} {u u' : Bool} {o : Int} {a b : Ex} (h : ∀ x, T x = true → T' x = true) (hu : u = true → u' = true) : here T u o a b = true → here T' u' o a b = true := by
  unfold here
  simp only [Bool.or_eq_true, Bool.and_eq_true]
  rintro ((h1 | h1) | ⟨h1, h2⟩)
  · exact Or.inl (Or.inl (hu h1))
  · exact Or.inl (Or.inr (tE_mono h a h1))
  · exact Or.inr ⟨h1, tE_mono h b h2⟩
theorem add_sub {vars : List ByteArray} {h : Bool} {nm : ByteArray} : ∃ n, add vars h nm = vars ++ n := by
  unfold add
  split
  · exact ⟨_, rfl⟩
  · exact ⟨[], by simp⟩
mutual
theorem spS_app : ∀ (s : St) (vars : List ByteArray) (u : Bool), ∃ n, spS vars u s = vars ++ n
  | .mk o nm mx a b bd el, vars, u => by
    rw [spS]
    obtain ⟨n1, h1⟩ := add_sub (vars := vars) (h := here (mem vars) u o a b) (nm := nm)
    obtain ⟨n2, h2⟩ := spB_app bd (add vars (here (mem vars) u o a b) nm) (here (mem vars) u o a b)
    obtain ⟨n3, h3⟩ := spB_app el (spB (add vars (here (mem vars) u o a b) nm) (here (mem vars) u o a b) bd) (here (mem vars) u o a b)
    exact ⟨n1 ++ n2 ++ n3, by rw [h3, h2, h1]; simp⟩
theorem spB_app : ∀ (l : List St) (vars : List ByteArray) (u : Bool), ∃ n, spB vars u l = vars ++ n
  | [], vars, u => ⟨[], by rw [spB]; simp⟩
  | s :: r, vars, u => by
    rw [spB]
    obtain ⟨n1, h1⟩ := spS_app s vars u
    obtain ⟨n2, h2⟩ := spB_app r (spS vars u s) u
    exact ⟨n1 ++ n2, by rw [h2, h1]; simp⟩
end
theorem add_least {C : ByteArray → Bool} {vars : List ByteArray} {h h' : Bool} {nm : ByteArray} (hh : h = true → h' = true) (hc : h' = true → nm.size ≠ 0 → C nm = true) (hv : ∀ x ∈ vars, C x = true) : ∀ x ∈ add vars h nm, C x = true := by
  unfold add
  split
  · rename_i h1
    intro x hx
    rcases List.mem_append.1 hx with hx | hx
    · exact hv x hx
    · rw [List.mem_singleton] at hx; rw [hx]; exact hc (hh h1.1) h1.2.1
  · exact hv
mutual
theorem spS_least {C : ByteArray → Bool} : ∀ (s : St) (vars : List ByteArray) (u u' : Bool), (u = true → u' = true) → clS C u' s → (∀ x ∈ vars, C x = true) → ∀ x ∈ spS vars u s, C x = true
  | .mk o nm mx a b bd el, vars, u, u', hu, hc, hv => by
    rw [clS] at hc
    rw [spS]
    have hh : here (mem vars) u o a b = true → here C u' o a b = true := here_mono (fun x hx => hv x (mem_iff.1 hx)) hu
    exact spB_least el _ _ _ hh hc.2.2 (spB_least bd _ _ _ hh hc.2.1 (add_least hh hc.1 hv))
theorem spB_least {C : ByteArray → Bool} : ∀ (l : List St) (vars : List ByteArray) (u u' : Bool), (u = true → u' = true) → clB C u' l → (∀ x ∈ vars, C x = true) → ∀ x ∈ spB vars u l, C x = true
  | [], vars, u, u', hu, hc, hv => by rw [spB]; exact hv
  | s :: r, vars, u, u', hu, hc, hv => by
    rw [clB] at hc
    rw [spB]
    exact spB_least r _ _ _ hu hc.2 (spS_least s _ _ _ hu hc.1 hv)
end
theorem app_self {α : Type} {l n : List α} (h : l ++ n = l) : n = [] := by
  have := congrArg List.length h
  rw [List.length_append] at this
  exact List.length_eq_zero_iff.1 (by omega)
theorem add_self {vars : List ByteArray} {h : Bool} {nm : ByteArray} (e : add vars h nm = vars) : h = true → nm.size ≠ 0 → mem vars nm = true := by
  intro h1 h2
  unfold add at e
  cases h3 : isIn nm vars
  · rw [if_pos ⟨h1, h2, h3⟩] at e
    exact absurd (app_self e) (by simp)
  · exact h3
mutual
theorem spS_fix : ∀ (s : St) (vars : List ByteArray) (u : Bool), spS vars u s = vars → clS (mem vars) u s
  | .mk o nm mx a b bd el, vars, u, e => by
    rw [spS] at e
    obtain ⟨n1, h1⟩ := add_sub (vars := vars) (h := here (mem vars) u o a b) (nm := nm)
    obtain ⟨n2, h2⟩ := spB_app bd (add vars (here (mem vars) u o a b) nm) (here (mem vars) u o a b)
    obtain ⟨n3, h3⟩ := spB_app el (spB (add vars (here (mem vars) u o a b) nm) (here (mem vars) u o a b) bd) (here (mem vars) u o a b)
    rw [h3, h2, h1, List.append_assoc, List.append_assoc] at e
    have e0 := app_self e
    have en1 : n1 = [] := (List.append_eq_nil_iff.1 e0).1
    have en2 : n2 = [] := (List.append_eq_nil_iff.1 (List.append_eq_nil_iff.1 e0).2).1
    have en3 : n3 = [] := (List.append_eq_nil_iff.1 (List.append_eq_nil_iff.1 e0).2).2
    subst en1 en2 en3
    rw [List.append_nil] at h1 h2 h3
    rw [h1] at h2 h3
    rw [h2] at h3
    rw [clS]
    exact ⟨add_self h1, spB_fix bd _ _ h2, spB_fix el _ _ h3⟩
theorem spB_fix : ∀ (l : List St) (vars : List ByteArray) (u : Bool), spB vars u l = vars → clB (mem vars) u l
  | [], vars, u, e => by rw [clB]; trivial
  | s :: r, vars, u, e => by
    rw [spB] at e
    obtain ⟨n1, h1⟩ := spS_app s vars u
    obtain ⟨n2, h2⟩ := spB_app r (spS vars u s) u
    rw [h2, h1, List.append_assoc] at e
    have e0 := app_self e
    have en1 : n1 = [] := (List.append_eq_nil_iff.1 e0).1
    have en2 : n2 = [] := (List.append_eq_nil_iff.1 e0).2
    subst en1 en2
    rw [List.append_nil] at h1 h2
    rw [h1] at h2
    rw [clB]
    exact ⟨spS_fix s _ _ h1, spB_fix r _ _ h2⟩
end
theorem add_nodup {vars : List ByteArray} {h : Bool} {nm : ByteArray} (hn : vars.Nodup) : (add vars h nm).Nodup := by
  unfold add
  split
  · rename_i h1
    refine List.nodup_append.2 ⟨hn, by simp, fun x hx y hy => ?_⟩
    rw [List.mem_singleton] at hy
    subst hy
    intro e
    subst e
    exact isIn_no.1 h1.2.2 hx
  · exact hn
mutual
theorem spS_nodup : ∀ (s : St) (vars : List ByteArray) (u : Bool), vars.Nodup → (spS vars u s).Nodup
  | .mk o nm mx a b bd el, vars, u, h => by rw [spS]; exact spB_nodup el _ _ (spB_nodup bd _ _ (add_nodup h))
theorem spB_nodup : ∀ (l : List St) (vars : List ByteArray) (u : Bool), vars.Nodup → (spB vars u l).Nodup
  | [], vars, u, h => by rw [spB]; exact h
  | s :: r, vars, u, h => by rw [spB]; exact spB_nodup r _ _ (spS_nodup s _ _ h)
end
mutual
theorem nmS_cl {T : ByteArray → Bool} : ∀ (s : St) (u : Bool), (∀ x ∈ nmS s, T x = true) → clS T u s
  | .mk o nm mx a b bd el, u, hx => by
    rw [nmS] at hx
    rw [clS]
    exact ⟨fun _ h2 => hx nm (by rw [if_pos h2]; simp), nmB_cl bd _ (fun x h => hx x (by simp [h])), nmB_cl el _ (fun x h => hx x (by simp [h]))⟩
theorem nmB_cl {T : ByteArray → Bool} : ∀ (l : List St) (u : Bool), (∀ x ∈ nmB l, T x = true) → clB T u l
  | [], u, _ => by rw [clB]; trivial
  | s :: r, u, hx => by
    rw [nmB] at hx
    rw [clB]
    exact ⟨nmS_cl s u (fun x h => hx x (by simp [h])), nmB_cl r u (fun x h => hx x (by simp [h]))⟩
end
theorem nodup_len : ∀ {l m : List ByteArray}, l.Nodup → (∀ x ∈ l, x ∈ m) → l.length ≤ m.length
  | [], _, _, _ => Nat.zero_le _
  | x :: l, m, hn, hs => by
    rw [List.nodup_cons] at hn
    have h1 : x ∈ m := hs x (by simp)
    have h2 := nodup_len (l := l) (m := m.filter fun y => !decide (y = x)) hn.2 (fun y hy => List.mem_filter.2 ⟨hs y (by simp [hy]), by simp; intro e; subst e; exact hn.1 hy⟩)
    have h3 : (m.filter fun y => !decide (y = x)).length < m.length := by
      rcases Nat.lt_or_eq_of_le (List.length_filter_le (fun y => !decide (y = x)) m) with h | h
      · exact h
      · rw [List.length_filter_eq_length_iff] at h
        have := h x h1
        simp at this
    rw [List.length_cons]
    omega
def it (l : List St) : Nat → List ByteArray → List ByteArray
  | 0, v => v
  | n + 1, v => it l n (spB v false l)
structure Least (l : List St) (v : List ByteArray) : Prop where
  cl : clB (mem v) false l
  le : ∀ C : ByteArray → Bool, clB C false l → ∀ x ∈ v, C x = true
theorem Least.same {l : List St} {v w : List ByteArray} (h : Least l v) (g : Least l w) : mem v = mem w := funext fun x => by
  cases h1 : mem v x <;> cases h2 : mem w x
  · rfl
  · have := g.le _ h.cl x (mem_iff.1 h2); rw [h1] at this; cases this
  · have := h.le _ g.cl x (mem_iff.1 h1); rw [h2] at this; cases this
  · rfl
structure Mid (l : List St) (v : List ByteArray) : Prop where
  nd : v.Nodup
  le : ∀ C : ByteArray → Bool, clB C false l → ∀ x ∈ v, C x = true
theorem Mid.nil (l : List St) : Mid l [] := ⟨List.nodup_nil, fun _ _ _ h => by cases h⟩
theorem Mid.next {l : List St} {v : List ByteArray} (h : Mid l v) : Mid l (spB v false l) := ⟨spB_nodup l v false h.nd, fun C hC => spB_least l v false false id hC (h.le C hC)⟩
theorem Mid.sub {l : List St} {v : List ByteArray} (h : Mid l v) : ∀ x ∈ v, x ∈ nmB l := fun x hx =>
  mem_iff.1 (h.le (mem (nmB l)) (nmB_cl l false fun _ h => mem_iff.2 h) x hx)
theorem Mid.len {l : List St} {v : List ByteArray} (h : Mid l v) : v.length ≤ (nmB l).length := nodup_len h.nd h.sub
theorem Mid.stop {l : List St} {v : List ByteArray} (h : Mid l v) (e : (spB v false l).length = v.length) : Least l v := by
  obtain ⟨n, hn⟩ := spB_app l v false
  have h0 : n = [] := by rw [hn, List.length_append] at e; exact List.length_eq_zero_iff.1 (by omega)
  exact ⟨spB_fix l v false (by rw [hn, h0, List.append_nil]), h.le⟩
theorem it_least {l : List St} : ∀ (k : Nat) (v : List ByteArray), Mid l v → (nmB l).length < v.length + k → Least l (it l k v)
  | 0, v, h, hk => absurd h.len (by omega)
  | k + 1, v, h, hk => by
    rw [it]
    obtain ⟨n, hn⟩ := spB_app l v false
    by_cases e : n = []
    · have hv : spB v false l = v := by rw [hn, e, List.append_nil]
      have hs := h.stop (by rw [hv])
      rw [hv]
      have : ∀ j, it l j v = v := fun j => by
        induction j with
        | zero => rfl
        | succ j ih => rw [it, hv, ih]
      rw [this]
      exact hs
    · have hl : v.length + 1 ≤ (spB v false l).length := by
        rw [hn, List.length_append]
        have : 0 < n.length := List.length_pos_iff.2 e
        omega
      exact it_least k _ h.next (by omega)
def tnt (l : List St) : List ByteArray := it l ((nmB l).length + 1) []
theorem tnt_least (l : List St) : Least l (tnt l) := it_least _ _ (Mid.nil l) (by simp)
theorem tnt_sub (l : List St) : ∀ x ∈ tnt l, x ∈ nmB l := fun x hx => mem_iff.1 ((tnt_least l).le (mem (nmB l)) (nmB_cl l false fun _ h => mem_iff.2 h) x hx)
end Go.Proofs.YtnelpgeiioflmaaGreatDoor.F
