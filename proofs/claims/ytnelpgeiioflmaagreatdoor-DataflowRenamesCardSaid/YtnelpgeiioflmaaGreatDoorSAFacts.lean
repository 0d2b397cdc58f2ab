/-
  Plain mathematics of layer 8, without the program: renaming keeps what is valid, and can be undone; the bounds of valid procedures.
-/
import Derived.Test.YtnelpgeiioflmaaGreatDoorSAPlain
namespace Go.Proofs.YtnelpgeiioflmaaGreatDoor.A
open L (Str isName prt)

/-! ### renaming -/

def renV (f t : ByteArray) : V → V | .st s d => .st (renS f t s) d | .ex e r => .ex (renE f t e) r
theorem renEs_len (f t : ByteArray) : ∀ l : List Ex, (renEs f t l).length = l.length
  | [] => rfl
  | e :: r => by rw [renEs, List.length_cons, List.length_cons, renEs_len f t r]
theorem renEs_empty (f t : ByteArray) (l : List Ex) : (renEs f t l).isEmpty = l.isEmpty := by cases l <;> rfl
theorem renB_empty (f t : ByteArray) (l : List St) : (renB f t l).isEmpty = l.isEmpty := by cases l <;> rfl
theorem ren_absent (f t : ByteArray) (e : Ex) : absent (renE f t e) = absent e := by
  obtain ⟨o, n, s, l⟩ := e
  rw [renE]
  unfold absent Ex.op Ex.n Ex.s Ex.args
  simp only [renEs_empty]
  by_cases h : o = 3
  · rw [decide_eq_false (show ¬ o = 0 by omega)]; rfl
  · rw [if_neg h]
mutual
theorem preE_ren (f t : ByteArray) : ∀ (e : Ex) (r : Bool), preE (renE f t e) r = (preE e r).map (renV f t)
  | .mk o n s l, r => by
    rw [renE, preE, preE, List.map_cons, preEs_ren f t l]
    rw [renV, renE]
theorem preEs_ren (f t : ByteArray) : ∀ l : List Ex, preEs (renEs f t l) = (preEs l).map (renV f t)
  | [] => rfl
  | e :: r => by rw [renEs, preEs, preEs, List.map_append, preE_ren f t e, preEs_ren f t r]
end
theorem preR_ren (f t : ByteArray) (e : Ex) : preR (renE f t e) = (preR e).map (renV f t) := by
  unfold preR
  rw [ren_absent]
  split
  · rfl
  · exact preE_ren f t e true
mutual
theorem preS_ren (f t : ByteArray) : ∀ (s : St) (d : Nat), preS (renS f t s) d = (preS s d).map (renV f t)
  | .mk o nm mx a b bd el, d => by
    rw [renS, preS, preS, List.map_cons, List.map_append, List.map_append, List.map_append, preR_ren, preR_ren, preB_ren f t bd, preB_ren f t el]
    rw [renV, renS]
theorem preB_ren (f t : ByteArray) : ∀ (l : List St) (d : Nat), preB (renB f t l) d = (preB l d).map (renV f t)
  | [], _ => rfl
  | s :: r, d => by rw [renB, preB, preB, List.map_append, preS_ren f t s, preB_ren f t r]
end
theorem walk_ren (f t : ByteArray) (p : Pr) : walk (ren f t p) = (walk p).map (renV f t) := by
  unfold walk ren
  rw [preB_ren, List.map_take]
theorem nam_swap {f t : ByteArray} (hf : nam f = true) (ht : nam t = true) (x : ByteArray) : nam (swap f t x) = nam x := by
  unfold swap
  split
  · rename_i h; rw [ht, h, hf]
  · rfl
theorem nam_pos {x : ByteArray} (h : nam x = true) : ¬ x.size = 0 := by
  intro h0
  have : x.data.toList = [] := List.length_eq_zero_iff.1 (by simpa using h0)
  unfold nam at h
  rw [this] at h
  cases h
theorem swap_zero {f t : ByteArray} (hf : nam f = true) (ht : nam t = true) (x : ByteArray) : decide ((swap f t x).size = 0) = decide (x.size = 0) := by
  unfold swap
  split
  · rename_i h; rw [decide_eq_false (nam_pos ht), h, decide_eq_false (nam_pos hf)]
  · rfl
theorem node_ren {f t : ByteArray} (hf : nam f = true) (ht : nam t = true) (e : Ex) (d : Nat) : nodeE (renE f t e) d = nodeE e d := by
  obtain ⟨o, n, s, l⟩ := e
  rw [renE]
  unfold nodeE Ex.op Ex.n Ex.s Ex.args
  simp only [renEs_len]
  by_cases h : o = 3
  · subst h
    simp [nam_swap hf ht]
  · rw [if_neg h]
mutual
theorem vE_ren {f t : ByteArray} (hf : nam f = true) (ht : nam t = true) : ∀ (e : Ex) (d : Nat), vE (renE f t e) d = vE e d
  | .mk o n s l, d => by
    have h := node_ren hf ht (.mk o n s l) d
    rw [renE] at h ⊢
    rw [vE, vE, h, vEs_ren hf ht l]
theorem vEs_ren {f t : ByteArray} (hf : nam f = true) (ht : nam t = true) : ∀ (l : List Ex) (d : Nat), vEs (renEs f t l) d = vEs l d
  | [], _ => rfl
  | e :: r, d => by rw [renEs, vEs, vEs, vE_ren hf ht e, vEs_ren hf ht r]
end
theorem stE_ren {f t : ByteArray} (hf : nam f = true) (ht : nam t = true) (s : St) (d : Nat) : stE (renS f t s) d = stE s d := by
  obtain ⟨o, nm, mx, a, b, bd, el⟩ := s
  rw [renS]
  unfold stE badS badM St.op St.name St.mx St.a St.b St.body St.els
  simp only [swap_zero hf ht, ren_absent, renB_empty, nam_swap hf ht, vE_ren hf ht]
theorem first_ren {f t : ByteArray} (hf : nam f = true) (ht : nam t = true) : ∀ l : List V, firstE (l.map (renV f t)) = firstE l
  | [] => rfl
  | .st s d :: r => by
    rw [List.map_cons, renV, firstE, firstE, stE_ren hf ht, first_ren hf ht r]
  | .ex e b :: r => by rw [List.map_cons, renV, firstE, firstE, first_ren hf ht r]
theorem swap_eq {f t x y : ByteArray} (hx : x ≠ t) (hy : y ≠ t) : decide (swap f t x = swap f t y) = decide (x = y) := by
  refine decide_eq_decide.2 ?_
  unfold swap
  by_cases h1 : x = f <;> by_cases h2 : y = f
  · rw [if_pos h1, if_pos h2, h1, h2]; simp
  · rw [if_pos h1, if_neg h2, h1]; exact ⟨fun h => absurd h.symm hy, fun h => absurd h.symm h2⟩
  · rw [if_neg h1, if_pos h2, h2]; exact ⟨fun h => absurd h hx, fun h => absurd h h1⟩
  · rw [if_neg h1, if_neg h2]
theorem parF_ren {f t : ByteArray} (hf : nam f = true) (ht : nam t = true) : ∀ (l : List Pm) (seen : List ByteArray), (∀ q ∈ l, q.name ≠ t) → (∀ x ∈ seen, x ≠ t) →
    parF (seen.map (swap f t)) (l.map (fun q => ⟨swap f t q.name, q.ty⟩)) = parF seen l
  | [], _, _, _ => rfl
  | p :: r, seen, hl, hs => by
    have hp := hl p List.mem_cons_self
    have ih := parF_ren hf ht r (seen ++ [p.name]) (fun q hq => hl q (List.mem_cons_of_mem _ hq)) (fun x hx => by
      rcases List.mem_append.1 hx with h | h
      · exact hs x h
      · rw [List.mem_singleton] at h; rw [h]; exact hp)
    rw [List.map_append] at ih
    have e1 : (seen.map (swap f t)).any (fun x => decide (x = swap f t p.name)) = seen.any (fun x => decide (x = p.name)) := by
      rw [List.any_map]
      clear ih
      induction seen with
      | nil => rfl
      | cons x seen ih =>
        rw [List.any_cons, List.any_cons, ih fun y hy => hs y (List.mem_cons_of_mem _ hy)]
        rw [Function.comp_apply, swap_eq (hs x List.mem_cons_self) hp]
    rw [List.map_cons, parF, parF]
    simp only [nam_swap hf ht, e1]
    rw [← ih]
    rfl
theorem val_ren {f t : ByteArray} (hf : nam f = true) (ht : nam t = true) (p : Pr) (hp : ∀ q ∈ p.params, q.name ≠ t) : valE (ren f t p) = valE p := by
  have h1 : parE (ren f t p).params = parE p.params := by
    unfold parE ren
    simp only [List.length_map]
    rw [show ([] : List ByteArray) = [].map (swap f t) from rfl, parF_ren hf ht _ [] hp (fun x hx => by cases hx)]
    rfl
  unfold valE
  rw [h1, walk_ren, first_ren hf ht, List.length_map]
  rfl
theorem decl_ren (f t : ByteArray) (v : V) : V.decl (renV f t v) = (V.decl v).map (swap f t) := by
  cases v with
  | st s d =>
    obtain ⟨o, nm, mx, a, b, bd, el⟩ := s
    rw [renV, renS]
    show (if o = 1 ∨ o = 6 then some (swap f t nm) else none) = (if o = 1 ∨ o = 6 then some nm else none).map (swap f t)
    split <;> rfl
  | ex e r => rfl
theorem names_ren (f t : ByteArray) (p : Pr) : names (ren f t p) = (names p).map (swap f t) := by
  unfold names
  rw [walk_ren, List.map_append]
  congr 1
  · show ((p.params.map _).map Pm.name) = _
    rw [List.map_map, List.map_map]; rfl
  · generalize walk p = l
    induction l with
    | nil => rfl
    | cons v l ih =>
      rw [List.map_cons, List.filterMap_cons, List.filterMap_cons, decl_ren]
      cases V.decl v with
      | none => exact ih
      | some x => simp only [Option.map_some, List.map_cons]; rw [ih]

/-! ### what a valid procedure is -/

theorem val_parts {p : Pr} (h : valE p = 0) : nam p.name = true ∧ parE p.params = 0 ∧ firstE (walk p) = 0 ∧ (walk p).length ≤ 400 := by
  unfold valE at h
  cases h1 : nam p.name
  · rw [if_pos h1] at h; cases h
  · rw [if_neg (by rw [h1]; decide)] at h
    by_cases h2 : parE p.params = 0
    · rw [if_neg (fun x => x h2)] at h
      by_cases h3 : firstE (walk p) = 0
      · rw [if_neg (fun x => x h3)] at h
        by_cases h4 : 400 < (walk p).length
        · rw [if_pos h4] at h; cases h
        · exact ⟨rfl, h2, h3, by omega⟩
      · rw [if_pos h3] at h; exact absurd h h3
    · rw [if_pos h2] at h; exact absurd h h2
theorem walk_full {p : Pr} (h : (walk p).length ≤ 400) : walk p = preB p.body 1 := by
  unfold walk at h ⊢
  rw [List.length_take] at h
  exact List.take_of_length_le (by omega)
theorem first_each : ∀ {l : List V}, firstE l = 0 → ∀ s d, V.st s d ∈ l → stE s d = 0
  | .st s0 d0 :: r, h, s, d, hm => by
    rw [firstE] at h
    by_cases h0 : stE s0 d0 = 0
    · rw [if_neg (fun x => x h0)] at h
      rcases List.mem_cons.1 hm with h1 | h1
      · cases h1; exact h0
      · exact first_each h s d h1
    · rw [if_pos h0] at h; exact absurd h h0
  | .ex e b :: r, h, s, d, hm => by
    rw [firstE] at h
    rcases List.mem_cons.1 hm with h1 | h1
    · cases h1
    · exact first_each h s d h1
structure Good (s : St) (d : Nat) : Prop where
  form : badS s = false
  most : badM s = false
  name : uN s.op = true → nam s.name = true
  a : uA s.op = true → vE s.a 1 = 0
  b : uB s.op = true → vE s.b 1 = 0
  depth : d ≤ 12
theorem good_of {s : St} {d : Nat} (h : stE s d = 0) : Good s d := by
  unfold stE at h
  cases h1 : badS s
  · rw [if_neg (by rw [h1]; decide)] at h
    cases h2 : badM s
    · rw [if_neg (by rw [h2]; decide)] at h
      cases h3 : (uN s.op && !nam s.name)
      · rw [if_neg (by rw [h3]; decide)] at h
        cases h4 : (uA s.op && !decide (vE s.a 1 = 0))
        · rw [if_neg (by rw [h4]; decide)] at h
          cases h5 : (uB s.op && !decide (vE s.b 1 = 0))
          · rw [if_neg (by rw [h5]; decide)] at h
            refine ⟨h1, h2, fun x => ?_, fun x => ?_, fun x => ?_, ?_⟩
            · rw [x] at h3; simpa using h3
            · rw [x] at h4; simpa using h4
            · rw [x] at h5; simpa using h5
            · by_cases hd : 12 < d
              · rw [if_pos hd] at h; cases h
              · omega
          · rw [if_pos h5] at h; rw [h] at h5; simp at h5
        · rw [if_pos h4] at h; rw [h] at h4; simp at h4
      · rw [if_pos h3] at h; cases h
    · rw [if_pos h2] at h; cases h
  · rw [if_pos h1] at h; cases h
theorem parF_each : ∀ (l : List Pm) (seen : List ByteArray), parF seen l = 0 → ∀ q ∈ l, nam q.name = true
  | p :: r, seen, h, q, hq => by
    rw [parF] at h
    cases h1 : nam p.name
    · rw [if_pos h1] at h; cases h
    · rw [if_neg (by rw [h1]; decide)] at h
      split at h
      · cases h
      · split at h
        · cases h
        · rcases List.mem_cons.1 hq with rfl | h2
          · exact h1
          · exact parF_each r _ h q h2
theorem par_each {l : List Pm} (h : parE l = 0) : l.length ≤ 6 ∧ ∀ q ∈ l, nam q.name = true := by
  unfold parE at h
  by_cases h6 : 6 < l.length
  · rw [if_pos h6] at h; cases h
  · rw [if_neg h6] at h; exact ⟨by omega, parF_each l [] h⟩
theorem declared {p : Pr} (h : valE p = 0) {x : ByteArray} (hx : x ∈ names p) : nam x = true ∧ occurs p x = true := by
  obtain ⟨_, h2, h3, _⟩ := val_parts h
  unfold names at hx
  rcases List.mem_append.1 hx with h1 | h1
  · obtain ⟨q, hq, rfl⟩ := List.mem_map.1 h1
    exact ⟨(par_each h2).2 q hq, by unfold occurs; rw [Bool.or_eq_true]; exact Or.inl (List.any_eq_true.2 ⟨q, hq, decide_eq_true rfl⟩)⟩
  · obtain ⟨v, hv, hd⟩ := List.mem_filterMap.1 h1
    cases v with
    | ex e r => cases hd
    | st s d =>
      have hg := good_of (first_each h3 s d hv)
      unfold V.decl at hd
      simp only at hd
      split at hd
      · rename_i ho
        cases hd
        refine ⟨hg.name (by unfold uN; exact decide_eq_true (by omega)), ?_⟩
        unfold occurs
        rw [Bool.or_eq_true]
        exact Or.inr (List.any_eq_true.2 ⟨_, hv, decide_eq_true rfl⟩)
      · cases hd
theorem any_mem {l : List ByteArray} {x : ByteArray} : l.any (fun y => decide (y = x)) = true ↔ x ∈ l := by
  rw [List.any_eq_true]
  exact ⟨fun ⟨y, hy, h⟩ => by rw [← of_decide_eq_true h]; exact hy, fun h => ⟨x, h, decide_eq_true rfl⟩⟩
theorem rename_parts {p q : Pr} {f t : ByteArray} (h : rename p f t = (q, 0)) : valE p = 0 ∧ nam t = true ∧ f ∈ names p ∧ occurs p t = false ∧ q = ren f t p := by
  unfold rename at h
  have bad : ∀ {x : Int} {a : Pr}, x ≠ 0 → (a, x) = (q, (0 : Int)) → False := fun hx h => hx (congrArg Prod.snd h)
  by_cases h1 : valE p = 0
  · rw [if_neg (fun x => x h1)] at h
    cases h2 : nam t
    · rw [if_pos h2] at h; exact (bad (by decide) h).elim
    · rw [if_neg (by rw [h2]; decide)] at h
      cases h3 : (names p).any (fun x => decide (x = f))
      · rw [if_pos h3] at h; exact (bad (by decide) h).elim
      · rw [if_neg (by rw [h3]; decide)] at h
        cases h4 : occurs p t
        · rw [if_neg (by rw [h4]; decide)] at h
          exact ⟨h1, rfl, any_mem.1 h3, rfl, (congrArg Prod.fst h).symm⟩
        · rw [if_pos h4] at h; exact (bad (by decide) h).elim
  · rw [if_pos h1] at h; exact (bad (by decide) h).elim
end Go.Proofs.YtnelpgeiioflmaaGreatDoor.A
