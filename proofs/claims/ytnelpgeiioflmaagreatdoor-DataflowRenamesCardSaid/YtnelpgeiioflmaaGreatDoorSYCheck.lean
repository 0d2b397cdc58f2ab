/-
  Plain mathematics of layer 11, without the program: the check of procedures, as the program goes and as the specification goes; that both agree.
-/
import Derived.Test.YtnelpgeiioflmaaGreatDoorSYPlain
namespace Go.Proofs.YtnelpgeiioflmaaGreatDoor.Y
open A (Ex St Pm Pr V arity vE vEs nodeE absent Good stE preE preEs preR preS preB walk names valE uA uB uN uM uD uE badS)

def isIn (x : ByteArray) (l : List ByteArray) : Bool := l.any fun y => decide (y = x)
theorem isIn_iff {x : ByteArray} {l : List ByteArray} : isIn x l = true ↔ x ∈ l := A.any_mem
theorem isIn_no {x : ByteArray} {l : List ByteArray} : isIn x l = false ↔ x ∉ l := by rw [← isIn_iff]; cases isIn x l <;> simp
structure Cx where
  vis : Env
  loops : ByteArray → Bool
  decl : List Pm
def put (f : Env) (x : ByteArray) (t : Int) : Env := fun y => if x = y then some t else f y
def del (f : Env) (x : ByteArray) : Env := fun y => if x = y then none else f y
def dels (f : Env) : List St → Env
  | [] => f
  | s :: r => dels (if s.op = 1 then del f s.name else f) r
def Cx.declare (c : Cx) (x : ByteArray) (t : Int) : Cx := ⟨put c.vis x t, c.loops, c.decl ++ [⟨x, t⟩]⟩
def Cx.loop (c : Cx) (x : ByteArray) : Cx := ⟨put c.vis x 1, fun y => decide (x = y) || c.loops y, c.decl ++ [⟨x, 1⟩]⟩
def fitE (b : Bool) : Int := if b then 0 else 10
def Cx.asg (c : Cx) (x : ByteArray) (t : Int) : Int :=
  match c.vis x with
  | none => 11
  | some d => if c.loops x then 7 else fitE (decide (t = d))
def lst (r : Cx × Int) (l : List St) : Cx × Int := if r.2 ≠ 0 then r else (⟨dels r.1.vis l, r.1.loops, r.1.decl⟩, 0)
def unl (r : Cx × Int) (x : ByteArray) : Cx × Int := (⟨del r.1.vis x, r.1.loops, r.1.decl⟩, r.2)
mutual
def ckS (c : Cx) : St → Cx × Int
  | .mk o nm _ a b bd el =>
    if (tyE c.vis a).2 ≠ 0 then (c, (tyE c.vis a).2) else if (tyE c.vis b).2 ≠ 0 then (c, (tyE c.vis b).2)
    else if o = 1 then (c.declare nm (tyE c.vis a).1, 0)
    else if o = 2 then (c, c.asg nm (tyE c.vis a).1)
    else if o = 3 then (c, fitE (decide ((tyE c.vis a).1 = 2) && !decide ((tyE c.vis b).1 = 3)))
    else if o = 4 then (c, fitE (decide ((tyE c.vis a).1 = 2)))
    else if o = 5 then
      (if (tyE c.vis a).1 ≠ 3 then (c, 10) else if (lst (ckB c bd) bd).2 ≠ 0 then lst (ckB c bd) bd else lst (ckB (lst (ckB c bd) bd).1 el) el)
    else if o = 6 then
      (if (tyE c.vis a).1 ≠ 1 ∨ (tyE c.vis b).1 ≠ 1 then (c, 10) else unl (lst (ckB (c.loop nm) bd) bd) nm)
    else if o = 7 then (c, fitE (!decide ((tyE c.vis a).1 = 3)))
    else (c, 0)
def ckB (c : Cx) : List St → Cx × Int
  | [] => (c, 0)
  | s :: r => if (ckS c s).2 ≠ 0 then ckS c s else ckB (ckS c s).1 r
end
/-! the specification -/
def asgR (vs : List Pm) (ls : List ByteArray) (x : ByteArray) (t : Int) : Int :=
  if (tyV (look vs) x).2 ≠ 0 then (tyV (look vs) x).2 else if isIn x ls = true then 7 else if t ≠ (tyV (look vs) x).1 then 10 else 0
def opsR (vs : List Pm) (o : Int) (a b : Ex) : Int × Int × Int :=
  if o = 8 then (0, 0, 0) else if (ofE (look vs) a).2 ≠ 0 ∨ (o ≠ 3 ∧ o ≠ 6) then ((ofE (look vs) a).1, 0, (ofE (look vs) a).2)
  else ((ofE (look vs) a).1, (ofE (look vs) b).1, (ofE (look vs) b).2)
def wrong (o a b : Int) : Bool :=
  if o = 3 then !decide (a = 2) || decide (b = 3) else if o = 4 then !decide (a = 2) else if o = 5 then !decide (a = 3)
  else if o = 6 then !decide (a = 1) || !decide (b = 1) else if o = 7 then decide (a = 3) else false
def e1R (vs : List Pm) (ls : List ByteArray) (o : Int) (nm : ByteArray) (a b : Ex) : Int :=
  if (opsR vs o a b).2.2 = 0 ∧ o = 2 then asgR vs ls nm (opsR vs o a b).1 else (opsR vs o a b).2.2
def e2R (vs : List Pm) (ls : List ByteArray) (o : Int) (nm : ByteArray) (a b : Ex) : Int :=
  if e1R vs ls o nm a b = 0 ∧ wrong o (opsR vs o a b).1 (opsR vs o a b).2.1 = true then 10 else e1R vs ls o nm a b
mutual
def rfS (vs : List Pm) (ls : List ByteArray) : St → Int
  | .mk o nm _ a b bd el =>
    if e2R vs ls o nm a b = 0 ∧ o = 5 then (if rfB vs ls bd = 0 then rfB vs ls el else rfB vs ls bd)
    else if e2R vs ls o nm a b = 0 ∧ o = 6 then rfB (vs ++ [⟨nm, 1⟩]) (ls ++ [nm]) bd
    else e2R vs ls o nm a b
def rfB (vs : List Pm) (ls : List ByteArray) : List St → Int
  | [] => 0
  | s :: r => if rfS vs ls s ≠ 0 then rfS vs ls s else rfB (if s.op = 1 then vs ++ [⟨s.name, (opsR vs s.op s.a s.b).1⟩] else vs) ls r
end
/-! what the laws ask -/
mutual
def knE (l : List ByteArray) : Ex → Bool
  | .mk o _ s as => !(decide (o = 3) && !isIn s l) && knEs l as
def knEs (l : List ByteArray) : List Ex → Bool
  | [] => true
  | e :: r => knE l e && knEs l r
end
mutual
def scS (seen ls : List ByteArray) : St → Bool
  | .mk o nm _ a b bd el => (knE seen a && knE seen b && !(decide (o = 2) && (!isIn nm seen || isIn nm ls))) &&
      (scB (if o = 6 then seen ++ [nm] else seen) (if o = 6 then ls ++ [nm] else ls) bd && scB seen ls el)
def scB (seen ls : List ByteArray) : List St → Bool
  | [] => true
  | s :: r => scS seen ls s && scB (if s.op = 1 then seen ++ [s.name] else seen) ls r
end
structure OkSt (g : Env) (s : St) : Prop where
  set : s.op = 1 ∨ s.op = 2 → ∃ t, 1 ≤ t ∧ t ≤ 3 ∧ g s.name = some t ∧ tyE g s.a = (t, 0)
  put : s.op = 3 → tyE g s.a = (2, 0) ∧ (tyE g s.b = (1, 0) ∨ tyE g s.b = (2, 0))
  del : s.op = 4 → tyE g s.a = (2, 0)
  cond : s.op = 5 → tyE g s.a = (3, 0)
  loop : s.op = 6 → tyE g s.a = (1, 0) ∧ tyE g s.b = (1, 0) ∧ g s.name = some 1
  emit : s.op = 7 → tyE g s.a = (1, 0) ∨ tyE g s.a = (2, 0)
def okV (g : Env) : V → Prop
  | .st s _ => OkSt g s
  | .ex _ _ => True
def vaS (out : List Pm) (s : St) : List Pm := if s.op = 1 then out ++ [⟨s.name, (ofE (look out) s.a).1⟩] else if s.op = 6 then out ++ [⟨s.name, 1⟩] else out
def vaF (out : List Pm) : List V → List Pm
  | [] => out
  | .st s _ :: r => vaF (vaS out s) r
  | .ex _ _ :: r => vaF out r
/-! declared names -/
mutual
def dS : St → List ByteArray
  | .mk o nm _ _ _ bd el => (if o = 1 ∨ o = 6 then [nm] else []) ++ (dB bd ++ dB el)
def dB : List St → List ByteArray
  | [] => []
  | s :: r => dS s ++ dB r
end
def lets : List St → List ByteArray
  | [] => []
  | s :: r => (if s.op = 1 then [s.name] else []) ++ lets r
/-! well-formed statements, all the way down -/
mutual
def gS : St → Prop
  | .mk o nm mx a b bd el => (∃ d, Good (.mk o nm mx a b bd el) d) ∧ gB bd ∧ gB el
def gB : List St → Prop
  | [] => True
  | s :: r => gS s ∧ gB r
end
mutual
theorem gS_of : ∀ (s : St) (d : Nat), (∀ t e, V.st t e ∈ preS s d → stE t e = 0) → gS s
  | .mk o nm mx a b bd el, d, h => by
    rw [preS] at h
    rw [gS]
    refine ⟨⟨d, A.good_of (h _ _ List.mem_cons_self)⟩, gB_of bd (d + 1) fun t e hm => h t e ?_, gB_of el (d + 1) fun t e hm => h t e ?_⟩
    · simp [hm]
    · simp [hm]
theorem gB_of : ∀ (l : List St) (d : Nat), (∀ t e, V.st t e ∈ preB l d → stE t e = 0) → gB l
  | [], _, _ => by rw [gB]; trivial
  | s :: r, d, h => by
    rw [preB] at h
    rw [gB]
    exact ⟨gS_of s d fun t e hm => h t e (List.mem_append.2 (Or.inl hm)), gB_of r d fun t e hm => h t e (List.mem_append.2 (Or.inr hm))⟩
end
theorem preEs_decl : ∀ (l : List V), (∀ v ∈ l, ∃ e r, v = V.ex e r) → l.filterMap V.decl = []
  | [], _ => rfl
  | v :: l, h => by
    obtain ⟨e, r, rfl⟩ := h v List.mem_cons_self
    rw [List.filterMap_cons]
    exact preEs_decl l fun v hv => h v (List.mem_cons_of_mem _ hv)
mutual
theorem preE_ex : ∀ (e : Ex) (b : Bool), ∀ v ∈ preE e b, ∃ e r, v = V.ex e r
  | .mk o n s l, b, v, h => by
    rw [preE] at h
    rcases List.mem_cons.1 h with rfl | h
    · exact ⟨_, _, rfl⟩
    · exact preEs_ex l v h
theorem preEs_ex : ∀ (l : List Ex), ∀ v ∈ preEs l, ∃ e r, v = V.ex e r
  | [], v, h => by rw [preEs] at h; cases h
  | e :: r, v, h => by
    rw [preEs] at h
    rcases List.mem_append.1 h with h | h
    · exact preE_ex e _ v h
    · exact preEs_ex r v h
end
theorem preR_ex (e : Ex) : ∀ v ∈ preR e, ∃ e r, v = V.ex e r := by
  unfold preR
  cases absent e
  · exact preE_ex e true
  · intro v h; cases h
mutual
theorem dS_walk : ∀ (s : St) (d : Nat), (preS s d).filterMap V.decl = dS s
  | .mk o nm mx a b bd el, d => by
    rw [preS, dS, List.filterMap_cons]
    simp only [List.filterMap_append, preEs_decl _ (preR_ex a), preEs_decl _ (preR_ex b), List.nil_append, dB_walk bd, dB_walk el]
    by_cases h : o = 1 ∨ o = 6
    · rw [show V.decl (.st (.mk o nm mx a b bd el) d) = some nm from if_pos h, if_pos h]; rfl
    · rw [show V.decl (.st (.mk o nm mx a b bd el) d) = none from if_neg h, if_neg h]; rfl
theorem dB_walk : ∀ (l : List St) (d : Nat), (preB l d).filterMap V.decl = dB l
  | [], _ => by rw [preB, dB]; rfl
  | s :: r, d => by rw [preB, dB, List.filterMap_append, dS_walk s, dB_walk r]
end
/-! environments -/
theorem look_some {l : List Pm} {x : ByteArray} {t : Int} (h : look l x = some t) : ∃ p ∈ l, p.name = x ∧ p.ty = t := by
  induction l with
  | nil => cases h
  | cons p l ih =>
    rw [look_cons] at h
    by_cases hp : p.name = x
    · rw [if_pos hp] at h; exact ⟨p, List.mem_cons_self, hp, Option.some.inj h⟩
    · rw [if_neg hp] at h
      obtain ⟨q, hq, h2⟩ := ih h
      exact ⟨q, List.mem_cons_of_mem _ hq, h2⟩
theorem look_mem {l : List Pm} (hn : (l.map Pm.name).Nodup) {p : Pm} (hp : p ∈ l) : look l p.name = some p.ty := by
  induction l with
  | nil => cases hp
  | cons q l ih =>
    rw [look_cons]
    rw [List.map_cons, List.nodup_cons] at hn
    rcases List.mem_cons.1 hp with rfl | h
    · rw [if_pos rfl]
    · rw [if_neg (fun e : q.name = p.name => hn.1 (by rw [e]; exact List.mem_map.2 ⟨p, h, rfl⟩))]; exact ih hn.2 h
def Has (g : Env) (l : List Pm) : Prop := ∀ p ∈ l, g p.name = some p.ty
theorem Has.sub {g : Env} {l : List Pm} (h : Has g l) : Sub (look l) g := fun x t e => by
  obtain ⟨p, hp, rfl, rfl⟩ := look_some e
  exact h p hp
theorem Has.of {l : List Pm} (hn : (l.map Pm.name).Nodup) {m : List Pm} (hm : ∀ p ∈ m, p ∈ l) : Has (look l) m := fun p hp => look_mem hn (hm p hp)
theorem put_look {vs : List Pm} {x : ByteArray} (h : x ∉ vs.map Pm.name) (t : Int) : put (look vs) x t = look (vs ++ [⟨x, t⟩]) := by
  funext y
  rw [look_app]
  unfold put
  by_cases hy : x = y
  · subst hy; rw [if_pos rfl, look_none.2 h]; show some t = look [⟨x, t⟩] x; rw [look_cons, if_pos rfl]
  · rw [if_neg hy]
    cases look vs y with
    | none => show none = look [⟨x, t⟩] y; rw [look_cons, if_neg hy]; rfl
    | some u => rfl
theorem del_look {vs : List Pm} {x : ByteArray} (h : x ∉ vs.map Pm.name) (t : Int) : del (look (vs ++ [⟨x, t⟩])) x = look vs := by
  funext y
  unfold del
  by_cases hy : x = y
  · subst hy; rw [if_pos rfl, look_none.2 h]
  · rw [if_neg hy, look_app]
    cases look vs y with
    | none => show look [⟨x, t⟩] y = none; rw [look_cons, if_neg hy]; rfl
    | some u => rfl
theorem dels_is : ∀ (l : List St) (f : Env), dels f l = fun y => if isIn y (lets l) = true then none else f y
  | [], f => by funext y; rw [dels, lets]; rfl
  | s :: r, f => by
    rw [dels, dels_is r]
    funext y
    rw [lets]
    by_cases h1 : s.op = 1
    · rw [if_pos h1, if_pos h1]
      by_cases h2 : y ∈ lets r
      · rw [if_pos (isIn_iff.2 h2), if_pos (isIn_iff.2 (List.mem_append.2 (Or.inr h2)))]
      · rw [if_neg (fun z => h2 (isIn_iff.1 z))]
        unfold del
        by_cases h3 : s.name = y
        · rw [if_pos h3, if_pos (isIn_iff.2 (List.mem_append.2 (Or.inl (by simp [h3]))))]
        · rw [if_neg h3, if_neg (fun z => by
            rcases List.mem_append.1 (isIn_iff.1 z) with h | h
            · exact h3 (List.mem_singleton.1 h).symm
            · exact h2 h)]
    · rw [if_neg h1, if_neg h1, List.nil_append]
theorem dels_look {vs es : List Pm} {l : List St} (he : es.map Pm.name = lets l) (hd : ∀ x ∈ lets l, x ∉ vs.map Pm.name) : dels (look (vs ++ es)) l = look vs := by
  rw [dels_is]
  funext y
  by_cases h : y ∈ lets l
  · rw [if_pos (isIn_iff.2 h), look_none.2 (hd y h)]
  · rw [if_neg (fun z => h (isIn_iff.1 z)), look_app]
    cases look vs y with
    | none => exact look_none.2 (by rw [he]; exact h)
    | some t => rfl
theorem lets_dB : ∀ (l : List St), ∀ x ∈ lets l, x ∈ dB l
  | [], x, h => by rw [lets] at h; cases h
  | .mk o nm mx a b bd el :: r, x, h => by
    rw [lets] at h
    rw [dB, dS]
    rcases List.mem_append.1 h with h | h
    · by_cases h1 : o = 1
      · have h' : x ∈ [nm] := by rw [if_pos (show (St.mk o nm mx a b bd el).op = 1 from h1)] at h; exact h
        rw [if_pos (Or.inl h1)]
        simp only [List.mem_append]
        exact Or.inl (Or.inl h')
      · rw [if_neg (show ¬ (St.mk o nm mx a b bd el).op = 1 from h1)] at h; cases h
    · exact List.mem_append.2 (Or.inr (lets_dB r x h))
/-! what a good statement looks like -/
theorem abs_uA {s : St} {d : Nat} (h : Good s d) (hu : uA s.op = false) : absent s.a = true := by
  have h1 := h.form
  unfold badS at h1
  simp only [Bool.or_eq_false_iff, Bool.and_eq_false_iff] at h1
  obtain ⟨⟨⟨⟨-, h2⟩, -⟩, -⟩, -⟩ := h1
  rw [hu] at h2
  simpa using h2
theorem abs_uB {s : St} {d : Nat} (h : Good s d) (hu : uB s.op = false) : absent s.b = true := by
  have h1 := h.form
  unfold badS at h1
  simp only [Bool.or_eq_false_iff, Bool.and_eq_false_iff] at h1
  obtain ⟨⟨⟨-, h2⟩, -⟩, -⟩ := h1
  rw [hu] at h2
  simpa using h2
theorem no_body {s : St} {d : Nat} (h : Good s d) (hu : uD s.op = false) : s.body = [] := by
  have h1 := h.form
  unfold badS at h1
  simp only [Bool.or_eq_false_iff, Bool.and_eq_false_iff] at h1
  obtain ⟨⟨-, h2⟩, -⟩ := h1
  rw [hu] at h2
  simpa using h2
theorem no_else {s : St} {d : Nat} (h : Good s d) (hu : uE s.op = false) : s.els = [] := by
  have h1 := h.form
  unfold badS at h1
  simp only [Bool.or_eq_false_iff, Bool.and_eq_false_iff] at h1
  obtain ⟨-, h2⟩ := h1
  rw [hu] at h2
  simpa using h2
theorem op_rng {s : St} {d : Nat} (h : Good s d) : 1 ≤ s.op ∧ s.op ≤ 8 := by
  have h1 := h.form
  unfold badS at h1
  simp only [Bool.or_eq_false_iff, decide_eq_false_iff_not] at h1
  obtain ⟨⟨⟨⟨⟨⟨⟨h2, h3⟩, -⟩, -⟩, -⟩, -⟩, -⟩, -⟩ := h1
  omega
theorem of_valid (f : Env) {e : Ex} (h : vE e 1 = 0) : ofE f e = tyE f e := by unfold ofE; rw [if_neg (fun x => x h)]
end Go.Proofs.YtnelpgeiioflmaaGreatDoor.Y
