/-
  Declarations of texts that lie merged: what further laws need of APlain, AFacts.
-/
import Derived.Test.YtgjnddjpinhkgaaDoorQAFacts
namespace Go.Proofs.YtgjnddjpinhkgaaDoor.A
open L (Str isName prt)
namespace Ex
end Ex
namespace St
end St
mutual
def renS (f t : ByteArray) : St → St
  | .mk o nm mx a b bd el => .mk o (swap f t nm) mx (renE f t a) (renE f t b) (renB f t bd) (renB f t el)
def renB (f t : ByteArray) : List St → List St
  | [] => []
  | s :: r => renS f t s :: renB f t r
end
def ren (f t : ByteArray) (p : Pr) : Pr := ⟨p.name, p.params.map (fun q => ⟨swap f t q.name, q.ty⟩), renB f t p.body⟩
def noPr : Pr := ⟨⟨#[]⟩, [], []⟩
def rename (p : Pr) (f t : ByteArray) : Pr × Int :=
  if valE p ≠ 0 then (noPr, 1) else if nam t = false then (noPr, 7) else if (names p).any (fun x => decide (x = f)) = false then (noPr, 9) else if occurs p t then (noPr, 8) else (ren f t p, 0)
/-! ### equality -/
end Go.Proofs.YtgjnddjpinhkgaaDoor.A
namespace Go.Proofs.YtgjnddjpinhkgaaDoor.A
open L (Str isName prt)
/-! ### renaming -/
def renV (f t : ByteArray) : V → V | .st s d => .st (renS f t s) d | .ex e r => .ex (renE f t e) r
theorem renEs_len (f t : ByteArray) : ∀ l : List Ex, (renEs f t l).length = l.length
  | [] => rfl
  | e :: r => by rw [renEs, List.length_cons, List.length_cons, renEs_len f t r]
theorem renEs_empty (f t : ByteArray) (l : List Ex) : (renEs f t l).isEmpty = l.isEmpty := by cases l <;> rfl
theorem renB_empty (f t : ByteArray) (l : List St) : (renB f t l).isEmpty = l.isEmpty := by cases l <;> rfl
theorem ren_absent (f t : ByteArray) (e : Ex) : absent (renE f t e) = absent e := by
  obtain ⟨o, n, s, l⟩ := e
  rw [renE]
  unfold absent Ex.op Ex.n Ex.s Ex.args
  simp only [renEs_empty]
  by_cases h : o = 3
  · rw [decide_eq_false (show ¬ o = 0 by omega)]; rfl
  · rw [if_neg h]
mutual
theorem preE_ren (f t : ByteArray) : ∀ (e : Ex) (r : Bool), preE (renE f t e) r = (preE e r).map (renV f t)
  | .mk o n s l, r => by
    rw [renE, preE, preE, List.map_cons, preEs_ren f t l]
    rw [renV, renE]
theorem preEs_ren (f t : ByteArray) : ∀ l : List Ex, preEs (renEs f t l) = (preEs l).map (renV f t)
  | [] => rfl
  | e :: r => by rw [renEs, preEs, preEs, List.map_append, preE_ren f t e, preEs_ren f t r]
end
theorem preR_ren (f t : ByteArray) (e : Ex) : preR (renE f t e) = (preR e).map (renV f t) := by
  unfold preR
  rw [ren_absent]
  split
  · rfl
  · exact preE_ren f t e true
mutual
theorem preS_ren (f t : ByteArray) : ∀ (s : St) (d : Nat), preS (renS f t s) d = (preS s d).map (renV f t)
  | .mk o nm mx a b bd el, d => by
    rw [renS, preS, preS, List.map_cons, List.map_append, List.map_append, List.map_append, preR_ren, preR_ren, preB_ren f t bd, preB_ren f t el]
    rw [renV, renS]
theorem preB_ren (f t : ByteArray) : ∀ (l : List St) (d : Nat), preB (renB f t l) d = (preB l d).map (renV f t)
  | [], _ => rfl
  | s :: r, d => by rw [renB, preB, preB, List.map_append, preS_ren f t s, preB_ren f t r]
end
theorem walk_ren (f t : ByteArray) (p : Pr) : walk (ren f t p) = (walk p).map (renV f t) := by
  unfold walk ren
  rw [preB_ren, List.map_take]
theorem nam_swap {f t : ByteArray} (hf : nam f = true) (ht : nam t = true) (x : ByteArray) : nam (swap f t x) = nam x := by
  unfold swap
  split
  · rename_i h; rw [ht, h, hf]
  · rfl
theorem nam_pos {x : ByteArray} (h : nam x = true) : ¬ x.size = 0 := by
  intro h0
  have : x.data.toList = [] := List.length_eq_zero_iff.1 (by simpa using h0)
  unfold nam at h
  rw [this] at h
  cases h
theorem swap_zero {f t : ByteArray} (hf : nam f = true) (ht : nam t = true) (x : ByteArray) : decide ((swap f t x).size = 0) = decide (x.size = 0) := by
  unfold swap
  split
  · rename_i h; rw [decide_eq_false (nam_pos ht), h, decide_eq_false (nam_pos hf)]
  · rfl
theorem node_ren {f t : ByteArray} (hf : nam f = true) (ht : nam t = true) (e : Ex) (d : Nat) : nodeE (renE f t e) d = nodeE e d := by
  obtain ⟨o, n, s, l⟩ := e
  rw [renE]
  unfold nodeE Ex.op Ex.n Ex.s Ex.args
  simp only [renEs_len]
  by_cases h : o = 3
  · subst h
    simp [nam_swap hf ht]
  · rw [if_neg h]
mutual
theorem vE_ren {f t : ByteArray} (hf : nam f = true) (ht : nam t = true) : ∀ (e : Ex) (d : Nat), vE (renE f t e) d = vE e d
  | .mk o n s l, d => by
    have h := node_ren hf ht (.mk o n s l) d
    rw [renE] at h ⊢
    rw [vE, vE, h, vEs_ren hf ht l]
theorem vEs_ren {f t : ByteArray} (hf : nam f = true) (ht : nam t = true) : ∀ (l : List Ex) (d : Nat), vEs (renEs f t l) d = vEs l d
  | [], _ => rfl
  | e :: r, d => by rw [renEs, vEs, vEs, vE_ren hf ht e, vEs_ren hf ht r]
end
theorem stE_ren {f t : ByteArray} (hf : nam f = true) (ht : nam t = true) (s : St) (d : Nat) : stE (renS f t s) d = stE s d := by
  obtain ⟨o, nm, mx, a, b, bd, el⟩ := s
  rw [renS]
  unfold stE badS badM St.op St.name St.mx St.a St.b St.body St.els
  simp only [swap_zero hf ht, ren_absent, renB_empty, nam_swap hf ht, vE_ren hf ht]
theorem first_ren {f t : ByteArray} (hf : nam f = true) (ht : nam t = true) : ∀ l : List V, firstE (l.map (renV f t)) = firstE l
  | [] => rfl
  | .st s d :: r => by
    rw [List.map_cons, renV, firstE, firstE, stE_ren hf ht, first_ren hf ht r]
  | .ex e b :: r => by rw [List.map_cons, renV, firstE, firstE, first_ren hf ht r]
theorem parF_ren {f t : ByteArray} (hf : nam f = true) (ht : nam t = true) : ∀ (l : List Pm) (seen : List ByteArray), (∀ q ∈ l, q.name ≠ t) → (∀ x ∈ seen, x ≠ t) →
    parF (seen.map (swap f t)) (l.map (fun q => ⟨swap f t q.name, q.ty⟩)) = parF seen l
  | [], _, _, _ => rfl
  | p :: r, seen, hl, hs => by
    have hp := hl p List.mem_cons_self
    have ih := parF_ren hf ht r (seen ++ [p.name]) (fun q hq => hl q (List.mem_cons_of_mem _ hq)) (fun x hx => by
      rcases List.mem_append.1 hx with h | h
      · exact hs x h
      · rw [List.mem_singleton] at h; rw [h]; exact hp)
    rw [List.map_append] at ih
    have e1 : (seen.map (swap f t)).any (fun x => decide (x = swap f t p.name)) = seen.any (fun x => decide (x = p.name)) := by
      rw [List.any_map]
      clear ih
      induction seen with
      | nil => rfl
      | cons x seen ih =>
        rw [List.any_cons, List.any_cons, ih fun y hy => hs y (List.mem_cons_of_mem _ hy)]
        rw [Function.comp_apply, swap_eq (hs x List.mem_cons_self) hp]
    rw [List.map_cons, parF, parF]
    simp only [nam_swap hf ht, e1]
    rw [← ih]
    rfl
theorem val_ren {f t : ByteArray} (hf : nam f = true) (ht : nam t = true) (p : Pr) (hp : ∀ q ∈ p.params, q.name ≠ t) : valE (ren f t p) = valE p := by
  have h1 : parE (ren f t p).params = parE p.params := by
    unfold parE ren
    simp only [List.length_map]
    rw [show ([] : List ByteArray) = [].map (swap f t) from rfl, parF_ren hf ht _ [] hp (fun x hx => by cases hx)]
    rfl
  unfold valE
  rw [h1, walk_ren, first_ren hf ht, List.length_map]
  rfl
theorem decl_ren (f t : ByteArray) (v : V) : V.decl (renV f t v) = (V.decl v).map (swap f t) := by
  cases v with
  | st s d =>
    obtain ⟨o, nm, mx, a, b, bd, el⟩ := s
    rw [renV, renS]
    show (if o = 1 ∨ o = 6 then some (swap f t nm) else none) = (if o = 1 ∨ o = 6 then some nm else none).map (swap f t)
    split <;> rfl
  | ex e r => rfl
theorem names_ren (f t : ByteArray) (p : Pr) : names (ren f t p) = (names p).map (swap f t) := by
  unfold names
  rw [walk_ren, List.map_append]
  congr 1
  · show ((p.params.map _).map Pm.name) = _
    rw [List.map_map, List.map_map]; rfl
  · generalize walk p = l
    induction l with
    | nil => rfl
    | cons v l ih =>
      rw [List.map_cons, List.filterMap_cons, List.filterMap_cons, decl_ren]
      cases V.decl v with
      | none => exact ih
      | some x => simp only [Option.map_some, List.map_cons]; rw [ih]
/-! ### what a valid procedure is -/
theorem rename_parts {p q : Pr} {f t : ByteArray} (h : rename p f t = (q, 0)) : valE p = 0 ∧ nam t = true ∧ f ∈ names p ∧ occurs p t = false ∧ q = ren f t p := by
  unfold rename at h
  have bad : ∀ {x : Int} {a : Pr}, x ≠ 0 → (a, x) = (q, (0 : Int)) → False := fun hx h => hx (congrArg Prod.snd h)
  by_cases h1 : valE p = 0
  · rw [if_neg (fun x => x h1)] at h
    cases h2 : nam t
    · rw [if_pos h2] at h; exact (bad (by decide) h).elim
    · rw [if_neg (by rw [h2]; decide)] at h
      cases h3 : (names p).any (fun x => decide (x = f))
      · rw [if_pos h3] at h; exact (bad (by decide) h).elim
      · rw [if_neg (by rw [h3]; decide)] at h
        cases h4 : occurs p t
        · rw [if_neg (by rw [h4]; decide)] at h
          exact ⟨h1, rfl, any_mem.1 h3, rfl, (congrArg Prod.fst h).symm⟩
        · rw [if_pos h4] at h; exact (bad (by decide) h).elim
  · rw [if_pos h1] at h; exact (bad (by decide) h).elim
end Go.Proofs.YtgjnddjpinhkgaaDoor.A
