/-
  Plain mathematics of layer 14: without a read nothing is tainted; parameters; renamed procedures.
-/
import Derived.Test.YtnelpgeiioflmaaGreatDoorSFMain
namespace Go.Proofs.YtnelpgeiioflmaaGreatDoor.F
open A (Ex St Pm Pr V stE preB preS preR preE preEs absent vE vEs arity names walk Good good_of nam swap renE renEs renS renB ren)
open Y (isIn isIn_iff isIn_no chk chk_main Chk)

/-! without a read nothing is tainted -/
def no : ByteArray → Bool := fun _ => false
theorem rooted {e : Ex} (h : absent e = false) : V.ex e true ∈ preR e := by
  unfold preR
  rw [h]
  obtain ⟨o, n, s, l⟩ := e
  rw [if_neg (by decide), preE]
  exact List.mem_cons_self
theorem tE_root {T : ByteArray → Bool} {e : Ex} {P : V → Prop} (h : ∀ x, P (V.ex x true) → tE T x = false) (hp : ∀ v ∈ preR e, P v) : tE T e = false := by
  cases ha : absent e
  · exact h e (hp _ (rooted ha))
  · exact tE_absent e ha
mutual
theorem noS : ∀ (s : St) (d : Nat), (∀ e, V.ex e true ∈ preS s d → tE no e = false) → clS no false s
  | .mk o nm mx a b bd el, d, h => by
    rw [preS] at h
    have ha : tE no a = false := tE_root (P := fun v => v ∈ preR a) (fun x hx => h x (by simp [hx])) fun v hv => hv
    have hb : tE no b = false := tE_root (P := fun v => v ∈ preR b) (fun x hx => h x (by simp [hx])) fun v hv => hv
    have hh : here no false o a b = false := by unfold here; rw [ha, hb]; simp
    rw [clS, hh]
    exact ⟨fun z => (by cases z), noB bd (d + 1) (fun e he => h e (by simp [he])), noB el (d + 1) (fun e he => h e (by simp [he]))⟩
theorem noB : ∀ (l : List St) (d : Nat), (∀ e, V.ex e true ∈ preB l d → tE no e = false) → clB no false l
  | [], _, _ => by rw [clB]; trivial
  | s :: r, d, h => by
    rw [preB] at h
    rw [clB]
    exact ⟨noS s d (fun e he => h e (List.mem_append.2 (Or.inl he))), noB r d (fun e he => h e (List.mem_append.2 (Or.inr he)))⟩
end
mutual
theorem st_subS : ∀ (s : St) (d : Nat) (t : St) (k : Nat), V.st t k ∈ preS s d → (∀ v ∈ preR t.a, v ∈ preS s d) ∧ ∀ v ∈ preR t.b, v ∈ preS s d
  | .mk o nm mx a b bd el, d, t, k, h => by
    rw [preS] at h ⊢
    rcases List.mem_cons.1 h with h | h
    · injection h with h1 h2
      subst h1
      exact ⟨fun v hv => by have hv' : v ∈ preR a := hv; simp [hv'], fun v hv => by have hv' : v ∈ preR b := hv; simp [hv']⟩
    · simp only [List.mem_append] at h
      rcases h with ((h | h) | h) | h
      · obtain ⟨e, r, he⟩ := Y.preR_ex a _ h; cases he
      · obtain ⟨e, r, he⟩ := Y.preR_ex b _ h; cases he
      · have := st_subB bd (d + 1) t k h
        exact ⟨fun v hv => by simp [this.1 v hv], fun v hv => by simp [this.2 v hv]⟩
      · have := st_subB el (d + 1) t k h
        exact ⟨fun v hv => by simp [this.1 v hv], fun v hv => by simp [this.2 v hv]⟩
theorem st_subB : ∀ (l : List St) (d : Nat) (t : St) (k : Nat), V.st t k ∈ preB l d → (∀ v ∈ preR t.a, v ∈ preB l d) ∧ ∀ v ∈ preR t.b, v ∈ preB l d
  | [], _, _, _, h => by rw [preB] at h; cases h
  | s :: r, d, t, k, h => by
    rw [preB] at h ⊢
    rcases List.mem_append.1 h with h | h
    · have := st_subS s d t k h
      exact ⟨fun v hv => List.mem_append.2 (Or.inl (this.1 v hv)), fun v hv => List.mem_append.2 (Or.inl (this.2 v hv))⟩
    · have := st_subB r d t k h
      exact ⟨fun v hv => List.mem_append.2 (Or.inr (this.1 v hv)), fun v hv => List.mem_append.2 (Or.inr (this.2 v hv))⟩
end
theorem root_of {a x : Ex} {q : Bool} (h : V.ex x q ∈ preR a) : V.ex a true ∈ preR a ∧ V.ex x q ∈ preE a true ∧ ∀ v ∈ preE a true, v ∈ preR a := by
  unfold preR at h ⊢
  split at h
  · cases h
  · rename_i ha
    rw [if_neg ha]
    refine ⟨?_, h, fun v hv => hv⟩
    obtain ⟨o, n, s, l⟩ := a
    rw [preE]
    exact List.mem_cons_self
mutual
theorem ex_rootS : ∀ (s : St) (d : Nat) (x : Ex) (q : Bool), V.ex x q ∈ preS s d → ∃ e, V.ex e true ∈ preS s d ∧ V.ex x q ∈ preE e true ∧ ∀ v ∈ preE e true, v ∈ preS s d
  | .mk o nm mx a b bd el, d, x, q, h => by
    rw [preS] at h ⊢
    rcases List.mem_cons.1 h with h | h
    · cases h
    · simp only [List.mem_append] at h
      rcases h with ((h | h) | h) | h
      · exact ⟨a, by simp [(root_of h).1], (root_of h).2.1, fun v hv => by simp [(root_of h).2.2 v hv]⟩
      · exact ⟨b, by simp [(root_of h).1], (root_of h).2.1, fun v hv => by simp [(root_of h).2.2 v hv]⟩
      · obtain ⟨e, h1, h2, h3⟩ := ex_rootB bd (d + 1) x q h
        exact ⟨e, by simp [h1], h2, fun v hv => by simp [h3 v hv]⟩
      · obtain ⟨e, h1, h2, h3⟩ := ex_rootB el (d + 1) x q h
        exact ⟨e, by simp [h1], h2, fun v hv => by simp [h3 v hv]⟩
theorem ex_rootB : ∀ (l : List St) (d : Nat) (x : Ex) (q : Bool), V.ex x q ∈ preB l d → ∃ e, V.ex e true ∈ preB l d ∧ V.ex x q ∈ preE e true ∧ ∀ v ∈ preE e true, v ∈ preB l d
  | [], _, _, _, h => by rw [preB] at h; cases h
  | s :: r, d, x, q, h => by
    rw [preB] at h ⊢
    rcases List.mem_append.1 h with h | h
    · obtain ⟨e, h1, h2, h3⟩ := ex_rootS s d x q h
      exact ⟨e, List.mem_append.2 (Or.inl h1), h2, fun v hv => List.mem_append.2 (Or.inl (h3 v hv))⟩
    · obtain ⟨e, h1, h2, h3⟩ := ex_rootB r d x q h
      exact ⟨e, List.mem_append.2 (Or.inr h1), h2, fun v hv => List.mem_append.2 (Or.inr (h3 v hv))⟩
end
mutual
theorem sub_treeE : ∀ (e : Ex) (r : Bool) (x : Ex) (q : Bool), V.ex x q ∈ preE e r → ∀ k ∈ x.args, ∀ v ∈ preE k false, v ∈ preE e r
  | .mk o n s l, r, x, q, h => by
    rw [preE] at h ⊢
    rcases List.mem_cons.1 h with h | h
    · injection h with h1 h2
      subst h1
      intro k hk v hv
      exact List.mem_cons_of_mem _ (sub_kids l k hk v hv)
    · intro k hk v hv
      exact List.mem_cons_of_mem _ (sub_treeEs l x q h k hk v hv)
theorem sub_treeEs : ∀ (l : List Ex) (x : Ex) (q : Bool), V.ex x q ∈ preEs l → ∀ k ∈ x.args, ∀ v ∈ preE k false, v ∈ preEs l
  | [], _, _, h => by rw [preEs] at h; cases h
  | e :: r, x, q, h => by
    rw [preEs] at h ⊢
    intro k hk v hv
    rcases List.mem_append.1 h with h | h
    · exact List.mem_append.2 (Or.inl (sub_treeE e false x q h k hk v hv))
    · exact List.mem_append.2 (Or.inr (sub_treeEs r x q h k hk v hv))
theorem sub_kids : ∀ (l : List Ex) (k : Ex), k ∈ l → ∀ v ∈ preE k false, v ∈ preEs l
  | e :: r, k, hk, v, hv => by
    rw [preEs]
    rcases List.mem_cons.1 hk with h | h
    · subst h; exact List.mem_append.2 (Or.inl hv)
    · exact List.mem_append.2 (Or.inr (sub_kids r k h v hv))
end
def quiet (p : Pr) : Bool := (A.exprs p).all fun e => !tE no e
theorem quiet_each {p : Pr} (h : quiet p = true) : ∀ e, V.ex e true ∈ walk p → tE no e = false := fun e he => by
  have := List.all_eq_true.1 h e (List.mem_filterMap.2 ⟨_, he, rfl⟩)
  simpa using this
theorem quiet_tnt {p : Pr} (h : (chk p).2 = 0) (hq : quiet p = true) : tnt p.body = [] := by
  obtain ⟨hw, -⟩ := ok_walk h
  have hc : clB no false p.body := noB p.body 1 fun e he => quiet_each hq e (by rw [hw]; exact he)
  refine List.eq_nil_iff_forall_not_mem.2 fun x hx => ?_
  have := (tnt_least p.body).le no hc x hx
  cases this
theorem mem_nil : mem [] = no := funext fun _ => rfl
theorem quiet_main {p : Pr} (hq : quiet p = true) : taint p = [] ∧ keysT p = false ∧ ctrlT p = false := by
  by_cases h : (chk p).2 = 0
  · have ht := quiet_tnt h hq
    obtain ⟨hw, -⟩ := ok_walk h
    have hst : ∀ s d, V.st s d ∈ walk p → tE no s.a = false ∧ tE no s.b = false := fun s d hm => by
      rw [hw] at hm
      have hs := st_subB p.body 1 s d hm
      exact ⟨tE_root (P := fun v => v ∈ preB p.body 1) (fun x hx => quiet_each hq x (by rw [hw]; exact hx)) hs.1, tE_root (P := fun v => v ∈ preB p.body 1) (fun x hx => quiet_each hq x (by rw [hw]; exact hx)) hs.2⟩
    unfold taint keysT ctrlT
    rw [if_neg (fun z => z h), if_neg (fun z => z h), if_neg (fun z => z h), ht, mem_nil]
    refine ⟨List.filter_eq_nil_iff.2 (fun x _ hx => by cases hx), ?_, ?_⟩
    · refine List.any_eq_false.2 fun v hv hk => ?_
      cases v with
      | st s d => rw [keyV, (hst s d hv).1, Bool.and_false] at hk; cases hk
      | ex e r =>
        rw [keyV, Bool.and_eq_true] at hk
        have hv2 := hv
        rw [hw] at hv2
        obtain ⟨e0, h1, h2, -⟩ := ex_rootB p.body 1 e r hv2
        have h3 : tE no e = true := by
          obtain ⟨o, n, s, l⟩ := e
          rw [tE, show acc o = true from hk.1]; rfl
        have h4 := tE_up e0 true e r h2 h3
        rw [quiet_each hq e0 (by rw [hw]; exact h1)] at h4
        cases h4
    · refine List.any_eq_false.2 fun v hv hk => ?_
      cases v with
      | st s d => rw [brV, (hst s d hv).1, (hst s d hv).2, Bool.and_false, Bool.and_false] at hk; cases hk
      | ex e r => rw [brV] at hk; cases hk
  · unfold taint keysT ctrlT
    rw [if_pos h, if_pos h, if_pos h]
    exact ⟨rfl, rfl, rfl⟩
/-! parameters -/
def V.sets : V → Option ByteArray | .st s _ => if s.op = 2 then some s.name else none | .ex _ _ => none
theorem par_clean {p : Pr} (h : (chk p).2 = 0) {q : Pm} (hq : q ∈ p.params) (hn : q.name ∉ (walk p).filterMap V.sets) : q.name ∉ taint p := by
  intro hx
  obtain ⟨hw, ho⟩ := ok_walk h
  have hc := (chk_main p).2 h
  rw [taint, if_neg (fun z => z h)] at hx
  have hx2 := mem_iff.1 (List.mem_filter.1 hx).2
  obtain ⟨t, k, hm, hnm, h0⟩ := nmB_in p.body 1 _ (tnt_sub p.body _ hx2)
  have hg := good_of (ho t k hm)
  have hnd := hc.nd
  unfold names at hnd
  rw [List.nodup_append] at hnd
  have hdis := hnd.2.2 q.name (List.mem_map_of_mem hq)
  rcases op_named hg (by rw [hnm]; exact h0) with h1 | h1 | h1
  · exact hdis q.name (List.mem_filterMap.2 ⟨_, by rw [hw]; exact hm, by rw [A.V.decl, if_pos (Or.inl h1), hnm]⟩) rfl
  · exact hn (List.mem_filterMap.2 ⟨_, by rw [hw]; exact hm, by rw [V.sets, if_pos h1, hnm]⟩)
  · exact hdis q.name (List.mem_filterMap.2 ⟨_, by rw [hw]; exact hm, by rw [A.V.decl, if_pos (Or.inr h1), hnm]⟩) rfl
/-! a renamed procedure -/
def Rel (f t : ByteArray) (T T' : ByteArray → Bool) : Prop := ∀ x, x ≠ t → T' (swap f t x) = T x
mutual
theorem tE_ren {f t : ByteArray} {T T' : ByteArray → Bool} (h : Rel f t T T') : ∀ (e : Ex) (r : Bool), (∀ v ∈ preE e r, V.says t v = false) → tE T' (renE f t e) = tE T e
  | .mk o n s l, r, hs => by
    rw [preE] at hs
    rw [renE, tE, tE, tEs_ren h l fun v hv => hs v (List.mem_cons_of_mem _ hv)]
    by_cases ho : o = 3
    · subst ho
      have h1 := hs _ List.mem_cons_self
      have h2 : s ≠ t := fun z => by
        unfold A.V.says at h1
        rw [Bool.and_eq_false_iff] at h1
        rcases h1 with h1 | h1
        · exact absurd rfl (of_decide_eq_false h1)
        · exact of_decide_eq_false h1 z
      rw [if_pos rfl, h s h2]
    · rw [if_neg ho, show decide (o = 3) = false from decide_eq_false ho, Bool.false_and, Bool.false_and]
theorem tEs_ren {f t : ByteArray} {T T' : ByteArray → Bool} (h : Rel f t T T') : ∀ (l : List Ex), (∀ v ∈ preEs l, V.says t v = false) → tEs T' (renEs f t l) = tEs T l
  | [], _ => by rw [renEs, tEs, tEs]
  | e :: r, hs => by
    rw [preEs] at hs
    rw [renEs, tEs, tEs, tE_ren h e false fun v hv => hs v (List.mem_append.2 (Or.inl hv)), tEs_ren h r fun v hv => hs v (List.mem_append.2 (Or.inr hv))]
end
theorem tR_ren {f t : ByteArray} {T T' : ByteArray → Bool} (h : Rel f t T T') {e : Ex} (hs : ∀ v ∈ preR e, V.says t v = false) : tE T' (renE f t e) = tE T e := by
  cases ha : absent e
  · refine tE_ren h e true fun v hv => hs v ?_
    unfold preR
    rw [if_neg (by rw [ha]; decide)]
    exact hv
  · rw [tE_absent e ha, tE_absent (renE f t e) (by rw [A.ren_absent]; exact ha)]
theorem here_ren {f t : ByteArray} {T T' : ByteArray → Bool} (h : Rel f t T T') {a b : Ex} (u : Bool) (o : Int) (ha : ∀ v ∈ preR a, V.says t v = false) (hb : ∀ v ∈ preR b, V.says t v = false) : here T' u o (renE f t a) (renE f t b) = here T u o a b := by
  unfold here
  rw [tR_ren h ha, tR_ren h hb]
theorem swap_size {f t x : ByteArray} (hf : f.size ≠ 0) (ht : t.size ≠ 0) : (swap f t x).size ≠ 0 ↔ x.size ≠ 0 := by
  unfold swap
  by_cases h : x = f
  · rw [if_pos h, h]; exact ⟨fun _ => hf, fun _ => ht⟩
  · rw [if_neg h]
mutual
theorem clS_ren {f t : ByteArray} {T T' : ByteArray → Bool} (h : Rel f t T T') (hf : f.size ≠ 0) (ht : t.size ≠ 0) : ∀ (s : St) (d : Nat) (u : Bool), (∀ v ∈ preS s d, V.says t v = false) → (clS T' u (renS f t s) ↔ clS T u s)
  | .mk o nm mx a b bd el, d, u, hs => by
    rw [preS] at hs
    have hnm : nm ≠ t := fun z => by
      have h1 := hs _ List.mem_cons_self
      unfold A.V.says at h1
      exact of_decide_eq_false h1 z
    rw [renS, clS, clS, here_ren h u o (fun v hv => hs v (by simp [hv])) (fun v hv => hs v (by simp [hv])), swap_size hf ht, h nm hnm,
      clB_ren h hf ht bd (d + 1) _ (fun v hv => hs v (by simp [hv])), clB_ren h hf ht el (d + 1) _ (fun v hv => hs v (by simp [hv]))]
theorem clB_ren {f t : ByteArray} {T T' : ByteArray → Bool} (h : Rel f t T T') (hf : f.size ≠ 0) (ht : t.size ≠ 0) : ∀ (l : List St) (d : Nat) (u : Bool), (∀ v ∈ preB l d, V.says t v = false) → (clB T' u (renB f t l) ↔ clB T u l)
  | [], _, _, _ => by rw [renB, clB, clB]
  | s :: r, d, u, hs => by
    rw [preB] at hs
    rw [renB, clB, clB, clS_ren h hf ht s d u (fun v hv => hs v (List.mem_append.2 (Or.inl hv))), clB_ren h hf ht r d u (fun v hv => hs v (List.mem_append.2 (Or.inr hv)))]
end
theorem least_ren {f t : ByteArray} {l : List St} {d : Nat} {v v' : List ByteArray} (hf : f.size ≠ 0) (ht : t.size ≠ 0) (hs : ∀ v ∈ preB l d, V.says t v = false) (h : Least l v) (h' : Least (renB f t l) v') : Rel f t (mem v) (mem v') := by
  have r1 : Rel f t (fun x => mem v' (swap f t x)) (mem v') := fun _ _ => rfl
  have c1 : clB (fun x => mem v' (swap f t x)) false l := (clB_ren r1 hf ht l d false hs).1 h'.cl
  have r2 : Rel f t (mem v) (fun y => if y = t then mem v f else if y = f then false else mem v y) := fun x hx => by
    unfold swap
    by_cases e : x = f
    · rw [if_pos e]; show (if t = t then mem v f else _) = _; rw [if_pos rfl, e]
    · rw [if_neg e]; show (if x = t then mem v f else if x = f then false else mem v x) = _; rw [if_neg hx, if_neg e]
  have c2 := (clB_ren r2 hf ht l d false hs).2 h.cl
  intro x hx
  have g1 : mem v x = true → mem v' (swap f t x) = true := fun z => h.le _ c1 x (mem_iff.1 z)
  have g2 : mem v' (swap f t x) = true → mem v x = true := fun z => by
    exact (r2 x hx).symm.trans (h'.le _ c2 _ (mem_iff.1 z))
  cases a1 : mem v x <;> cases a2 : mem v' (swap f t x)
  · rfl
  · rw [g2 a2] at a1; cases a1
  · rw [g1 a1] at a2; cases a2
  · rfl
theorem rename_main {p q : Pr} {f t : ByteArray} (h : A.rename p f t = (q, 0)) : taint q = (taint p).map (swap f t) ∧ keysT q = keysT p ∧ ctrlT q = ctrlT p ∧ indep q = indep p := by
  have hc := (Y.chk_ren h).1
  obtain ⟨hv, hnt, hfn, hoc, rfl⟩ := A.rename_parts h
  by_cases h0 : (chk p).2 = 0
  · have h0q : (chk (ren f t p)).2 = 0 := by rw [hc]; exact h0
    obtain ⟨hw, ho⟩ := ok_walk h0
    unfold A.occurs at hoc
    rw [Bool.or_eq_false_iff] at hoc
    have hsay : ∀ v ∈ preB p.body 1, V.says t v = false := fun v hvm => by
      cases hz : V.says t v
      · rfl
      · have : (walk p).any (V.says t) = true := List.any_eq_true.2 ⟨v, by rw [hw]; exact hvm, hz⟩
        rw [hoc.2] at this; cases this
    have hpos : ∀ x : ByteArray, nam x = true → x.size ≠ 0 := fun x hx z => by
      have h2 : x = ⟨#[]⟩ := by
        rcases x with ⟨a⟩
        congr 1
        exact Array.eq_empty_of_size_eq_zero z
      rw [h2] at hx
      cases hx
    have hnames : ∀ x ∈ names p, x ≠ t := fun x hx hz => by
      have h1 := (A.declared hv hx).2
      subst hz
      unfold A.occurs at h1
      rw [hoc.1, hoc.2] at h1; cases h1
    have hR : Rel f t (mem (tnt p.body)) (mem (tnt (renB f t p.body))) := least_ren (hpos f (A.declared hv hfn).1) (hpos t hnt) hsay (tnt_least p.body) (tnt_least _)
    have hst : ∀ s d, V.st s d ∈ walk p → (∀ v ∈ preR s.a, V.says t v = false) ∧ ∀ v ∈ preR s.b, V.says t v = false := fun s d hm => by
      rw [hw] at hm
      have hs := st_subB p.body 1 s d hm
      exact ⟨fun v hv => hsay v (hs.1 v hv), fun v hv => hsay v (hs.2 v hv)⟩
    have hkey : ∀ v ∈ walk p, keyV (mem (tnt (renB f t p.body))) (A.renV f t v) = keyV (mem (tnt p.body)) v := fun v hm => by
      cases v with
      | st s d =>
        have hs := hst s d hm
        obtain ⟨o, nm, mx, a, b, bd, el⟩ := s
        rw [A.renV, renS, keyV, keyV]
        show ((decide (o = 3) || decide (o = 4)) && tE _ (renE f t a)) = ((decide (o = 3) || decide (o = 4)) && tE _ a)
        rw [tR_ren hR (e := a) hs.1]
      | ex e r =>
        rw [hw] at hm
        obtain ⟨e0, -, h2, h3⟩ := ex_rootB p.body 1 e r hm
        have hk := sub_treeE e0 true e r h2
        obtain ⟨o, n, s, l⟩ := e
        rw [A.renV, renE, keyV, keyV]
        cases l with
        | nil => rfl
        | cons k rest =>
          show (acc o && tE _ (renE f t k)) = (acc o && tE _ k)
          rw [tE_ren hR k false fun v hv => hsay v (h3 v (hk k List.mem_cons_self v hv))]
    have hbr : ∀ v ∈ walk p, brV (mem (tnt (renB f t p.body))) (A.renV f t v) = brV (mem (tnt p.body)) v := fun v hm => by
      cases v with
      | st s d =>
        have hs := hst s d hm
        obtain ⟨o, nm, mx, a, b, bd, el⟩ := s
        rw [A.renV, renS, brV, brV]
        show (((decide (o = 5) || decide (o = 6)) && tE _ (renE f t a)) || (decide (o = 6) && tE _ (renE f t b))) = (((decide (o = 5) || decide (o = 6)) && tE _ a) || (decide (o = 6) && tE _ b))
        rw [tR_ren hR (e := a) hs.1, tR_ren hR (e := b) hs.2]
      | ex e r => rfl
    have hany : ∀ (g g' : V → Bool), (∀ v ∈ walk p, g' (A.renV f t v) = g v) → (walk (ren f t p)).any g' = (walk p).any g := fun g g' hg => by
      rw [A.walk_ren, List.any_map]
      have : ∀ l : List V, (∀ v ∈ l, g' (A.renV f t v) = g v) → l.any (g' ∘ A.renV f t) = l.any g := fun l => by
        induction l with
        | nil => exact fun _ => rfl
        | cons v l ih =>
          intro h
          rw [List.any_cons, List.any_cons, ih fun u hu => h u (List.mem_cons_of_mem _ hu), Function.comp, h v List.mem_cons_self]
      exact this _ hg
    have hK : keysT (ren f t p) = keysT p := by
      unfold keysT
      rw [if_neg (show ¬ (chk p).2 ≠ 0 from fun z => z h0), if_neg (show ¬ (chk (ren f t p)).2 ≠ 0 from fun z => z h0q)]
      exact hany _ _ hkey
    refine ⟨?_, hK, ?_, ?_⟩
    · unfold taint
      rw [if_neg (show ¬ (chk p).2 ≠ 0 from fun z => z h0), if_neg (show ¬ (chk (ren f t p)).2 ≠ 0 from fun z => z h0q), A.names_ren, List.filter_map]
      congr 1
      refine List.filter_congr fun x hx => ?_
      exact hR x (hnames x hx)
    · unfold ctrlT
      rw [if_neg (show ¬ (chk p).2 ≠ 0 from fun z => z h0), if_neg (show ¬ (chk (ren f t p)).2 ≠ 0 from fun z => z h0q)]
      exact hany _ _ hbr
    · unfold indep
      rw [hK, hc]
  · have h0q : (chk (ren f t p)).2 ≠ 0 := by rw [hc]; exact h0
    unfold indep taint keysT ctrlT
    rw [if_pos h0, if_pos h0q, if_pos h0, if_pos h0q, if_pos h0, if_pos h0q]
    refine ⟨rfl, rfl, rfl, ?_⟩
    rw [hc]
end Go.Proofs.YtnelpgeiioflmaaGreatDoor.F
