/-
  Declarations of texts that lie merged: what further laws need of NSA, NSB, NSC, NSD.
-/
import Derived.Test.YtgjnddjpinhkgaaDoorR21
import Derived.Test.YtgjnddjpinhkgaaDoorR22
import Derived.Test.YtgjnddjpinhkgaaDoorM18
import Derived.Test.YtgjnddjpinhkgaaDoorM17
import Derived.Test.YtgjnddjpinhkgaaDoorM15
import Derived.Test.YtgjnddjpinhkgaaDoorM10
import Derived.Test.YtgjnddjpinhkgaaDoorM08
import Derived.Test.YtgjnddjpinhkgaaDoorM07
import Derived.Test.YtgjnddjpinhkgaaDoorQNPlain
namespace Go.Proofs.YtgjnddjpinhkgaaDoor.N
open A (Ex St Pm Pr V arity absent preE preEs preR preS preB walk exprs cE cEs cS cB stE vE vEs nodeE uN uA uB okE okEs okS okB OkP)
mutual
/-- the k-th integer (counted down) replaced by now -/
def rp : Ex → Int → Ex × Int
  | .mk o n s l, k => if o = 1 then (if k = 0 then (.mk 25 0 ⟨#[]⟩ [], -1) else (.mk o n s l, k - 1)) else (.mk o n s (rps l k).1, (rps l k).2)
def rps : List Ex → Int → List Ex × Int
  | [], k => ([], k)
  | e :: r, k => ((if 0 ≤ k then (rp e k).1 else e) :: (rps r (if 0 ≤ k then (rp e k).2 else k)).1, (rps r (if 0 ≤ k then (rp e k).2 else k)).2)
end
theorem rps_cons_pos {e : Ex} {r : List Ex} {k : Int} (h : 0 ≤ k) : rps (e :: r) k = ((rp e k).1 :: (rps r (rp e k).2).1, (rps r (rp e k).2).2) := by rw [rps, if_pos h, if_pos h]
theorem rps_neg : ∀ (l : List Ex) {k : Int}, ¬ 0 ≤ k → rps l k = (l, k)
  | [], k, _ => by rw [rps]
  | e :: r, k, h => by rw [rps, if_neg h, if_neg h, rps_neg r h]
theorem rps_len : ∀ (l : List Ex) (k : Int), (rps l k).1.length = l.length
  | [], k => by rw [rps]
  | e :: r, k => by rw [rps, List.length_cons, List.length_cons, rps_len r]
theorem rps_empty (l : List Ex) (k : Int) : (rps l k).1.isEmpty = l.isEmpty := by
  cases l with
  | nil => rw [rps]
  | cons e r => rw [rps]; rfl
theorem rp_int (n : Int) (s : ByteArray) (l : List Ex) (k : Int) : rp (.mk 1 n s l) k = if k = 0 then (.mk 25 0 ⟨#[]⟩ [], -1) else (.mk 1 n s l, k - 1) := by rw [rp, if_pos rfl]
theorem rp_node {o : Int} (h : o ≠ 1) (n : Int) (s : ByteArray) (l : List Ex) (k : Int) : rp (.mk o n s l) k = (.mk o n s (rps l k).1, (rps l k).2) := by rw [rp, if_neg h]
theorem node_now {d : Nat} (h : d ≤ 12) : nodeE (.mk 25 0 ⟨#[]⟩ []) d = 0 := by
  unfold nodeE
  rw [if_neg (by decide), if_neg (by decide), if_neg (by decide), if_neg (by omega)]
theorem node_deep {e : Ex} {d : Nat} (h : nodeE e d = 0) : d ≤ 12 := by
  unfold nodeE at h
  split at h
  · cases h
  · split at h
    · cases h
    · split at h
      · cases h
      · split at h
        · cases h
        · omega
/-- what stays as it was -/
structure Tw (e e' : Ex) (d : Nat) : Prop where
  abs : absent e' = absent e
  v : vE e' d = 0
  ty : ∀ f, Y.tyE f e' = Y.tyE f e
  len : ∀ r, (preE e' r).length = (preE e r).length
structure Tws (l l' : List Ex) (d : Nat) : Prop where
  v : vEs l' d = 0
  ty : ∀ f, Y.tyEs f l' = Y.tyEs f l
  len : (preEs l').length = (preEs l).length
theorem Tw.refl {e : Ex} {d : Nat} (h : vE e d = 0) : Tw e e d := ⟨rfl, h, fun _ => rfl, fun _ => rfl⟩
mutual
theorem rp_tw : ∀ (e : Ex) (k : Int) (d : Nat), vE e d = 0 → Tw e (rp e k).1 d
  | .mk o n s l, k, d, h => by
    obtain ⟨h1, h2⟩ := Y.vE_open h
    by_cases ho : o = 1
    · subst ho
      rw [rp_int]
      by_cases hk : k = 0
      · rw [if_pos hk]
        obtain ⟨hl, hty⟩ := Y.ty_leaf (fun _ => none) h rfl
        subst hl
        refine ⟨?_, ?_, fun f => ?_, fun r => ?_⟩
        · unfold absent; simp [Ex.op]
        · rw [vE, if_neg (fun x => x (node_now (node_deep h1))), vEs]
        · rw [(Y.ty_leaf f h rfl).2, Y.tyE, Y.tyEs, if_neg (by decide), if_neg (by decide), if_pos (by decide), if_neg (by decide), if_neg (by decide)]; rfl
        · rw [preE, preE]; rfl
      · rw [if_neg hk]; exact Tw.refl h
    · rw [rp_node ho]
      have ht := rps_tw l k (d + 1) h2
      refine ⟨?_, ?_, fun f => ?_, fun r => ?_⟩
      · unfold absent Ex.op Ex.n Ex.s Ex.args
        simp only [rps_empty]
      · have hn : nodeE (.mk o n s (rps l k).1) d = nodeE (.mk o n s l) d := by
          unfold nodeE Ex.op Ex.n Ex.s Ex.args
          simp only [rps_len]
        rw [vE, hn, h1, if_neg (fun x => x rfl)]
        exact ht.v
      · rw [Y.tyE, Y.tyE, ht.ty f]
      · rw [preE, preE, List.length_cons, List.length_cons, ht.len]
theorem rps_tw : ∀ (l : List Ex) (k : Int) (d : Nat), vEs l d = 0 → Tws l (rps l k).1 d
  | [], k, d, h => by rw [rps]; exact ⟨h, fun _ => rfl, rfl⟩
  | e :: r, k, d, h => by
    obtain ⟨h1, h2⟩ := Y.vEs_cons h
    by_cases hk : 0 ≤ k
    · rw [rps_cons_pos hk]
      have t1 := rp_tw e k d h1
      have t2 := rps_tw r (rp e k).2 d h2
      refine ⟨?_, fun f => ?_, ?_⟩
      · show vEs (_ :: _) d = 0
        rw [vEs, t1.v, if_neg (fun x => x rfl)]; exact t2.v
      · show Y.tyEs f (_ :: _) = _
        rw [Y.tyEs, Y.tyEs, t1.ty f, t2.ty f]
      · show (preEs (_ :: _)).length = _
        rw [preEs, preEs, List.length_append, List.length_append, t1.len, t2.len]
    · rw [rps_neg _ hk]; exact ⟨h, fun _ => rfl, rfl⟩
end
/-! the operators of what is made -/
def Hit (l : List Int) : Prop := ∃ a b, l = a ++ 25 :: b ∧ a.any isN = false
theorem Hit.more {l m : List Int} (h : Hit l) : Hit (l ++ m) := by
  obtain ⟨a, b, rfl, h⟩ := h
  exact ⟨a, b ++ m, by simp, h⟩
theorem Hit.after {l m : List Int} (hl : l.any isN = false) (h : Hit m) : Hit (l ++ m) := by
  obtain ⟨a, b, rfl, h⟩ := h
  exact ⟨l ++ a, b, by simp, by rw [List.any_append, hl, h]; rfl⟩
mutual
theorem rp_ops : ∀ (e : Ex) (k : Int), 0 ≤ k → (ops e).any isN = false → ((0 ≤ (rp e k).2 ∧ (rp e k).1 = e) ∨ ((rp e k).2 = -1 ∧ Hit (ops (rp e k).1)))
  | .mk o n s l, k, hk, hc => by
    by_cases ho : o = 1
    · subst ho
      rw [rp_int]
      by_cases h0 : k = 0
      · rw [if_pos h0]
        exact Or.inr ⟨rfl, [], [], by rw [ops, opss]; rfl, rfl⟩
      · rw [if_neg h0]; exact Or.inl ⟨by show 0 ≤ k - 1; omega, rfl⟩
    · rw [rp_node ho]
      rw [ops, List.any_cons, Bool.or_eq_false_iff] at hc
      rcases rps_ops l k hk hc.2 with ⟨h1, h2⟩ | ⟨h1, h2⟩
      · exact Or.inl ⟨h1, by rw [h2]⟩
      · refine Or.inr ⟨h1, ?_⟩
        rw [ops]
        exact Hit.after (l := [o]) (by rw [List.any_cons, hc.1]; rfl) h2
theorem rps_ops : ∀ (l : List Ex) (k : Int), 0 ≤ k → (opss l).any isN = false → ((0 ≤ (rps l k).2 ∧ (rps l k).1 = l) ∨ ((rps l k).2 = -1 ∧ Hit (opss (rps l k).1)))
  | [], k, hk, _ => by rw [rps]; exact Or.inl ⟨hk, rfl⟩
  | e :: r, k, hk, hc => by
    rw [opss, List.any_append, Bool.or_eq_false_iff] at hc
    rw [rps_cons_pos hk]
    rcases rp_ops e k hk hc.1 with ⟨h1, h2⟩ | ⟨h1, h2⟩
    · rcases rps_ops r (rp e k).2 h1 hc.2 with ⟨h3, h4⟩ | ⟨h3, h4⟩
      · exact Or.inl ⟨h3, by rw [h2, h4]⟩
      · refine Or.inr ⟨h3, ?_⟩
        rw [opss, h2]
        exact Hit.after hc.1 h4
    · rw [h1, rps_neg _ (by decide)]
      refine Or.inr ⟨rfl, ?_⟩
      rw [opss]
      exact h2.more
end
theorem rp_absent {e : Ex} {k : Int} (h : absent e = true) : (rp e k).2 = k := by
  obtain ⟨o, n, s, l⟩ := e
  unfold absent at h
  simp only [Bool.and_eq_true, decide_eq_true_iff, List.isEmpty_iff] at h
  obtain ⟨⟨⟨h1, -⟩, -⟩, h4⟩ := h
  have h1' : o = 0 := h1
  have h4' : l = [] := h4
  subst h1'; subst h4'
  rw [rp_node (by decide), rps]
mutual
theorem rp_ok : ∀ (e : Ex) (k : Int), okE e → okE (rp e k).1
  | .mk o n s l, k, h => by
    by_cases ho : o = 1
    · subst ho
      rw [rp_int]
      by_cases h0 : k = 0
      · rw [if_pos h0, okE, okEs]; exact ⟨⟨by decide, by decide⟩, ⟨by decide, by decide⟩, by decide, by decide, trivial⟩
      · rw [if_neg h0]; exact h
    · rw [rp_node ho]
      rw [okE] at h ⊢
      exact ⟨h.1, h.2.1, h.2.2.1, by rw [rps_len]; exact h.2.2.2.1, rps_ok l k h.2.2.2.2⟩
theorem rps_ok : ∀ (l : List Ex) (k : Int), okEs l → okEs (rps l k).1
  | [], k, h => by rw [rps]; exact h
  | e :: r, k, h => by
    rw [okEs] at h
    rw [rps, okEs]
    refine ⟨?_, rps_ok r _ h.2⟩
    by_cases hk : 0 ≤ k
    · rw [if_pos hk]; exact rp_ok e k h.1
    · rw [if_neg hk]; exact h.1
end
/-! the procedure -/
def withA : St → Ex → St
  | .mk o nm mx _ b bd el, x => .mk o nm mx x b bd el
def swp (p : Pr) (i : Nat) (s : St) (x : Ex) : Pr := ⟨p.name, p.params, p.body.set i (withA s x)⟩
theorem preB_app : ∀ (l m : List St) (d : Nat), preB (l ++ m) d = preB l d ++ preB m d
  | [], m, d => by rw [List.nil_append, preB, List.nil_append]
  | s :: r, m, d => by rw [List.cons_append, preB, preB, preB_app r, List.append_assoc]
theorem firstE_app : ∀ (l m : List V), A.firstE (l ++ m) = if A.firstE l ≠ 0 then A.firstE l else A.firstE m
  | [], m => by rw [List.nil_append, A.firstE, if_neg (fun x => x rfl)]
  | .st s d :: r, m => by
    rw [List.cons_append, A.firstE, A.firstE]
    by_cases h : stE s d = 0
    · simp only [h, ne_eq, not_true_eq_false, ↓reduceIte]
      exact firstE_app r m
    · simp only [h, ne_eq, not_false_eq_true, ↓reduceIte]
  | .ex e b :: r, m => by rw [List.cons_append, A.firstE, A.firstE, firstE_app r]
theorem firstE_ex : ∀ (l : List V), (∀ v ∈ l, ∃ e r, v = V.ex e r) → A.firstE l = 0
  | [], _ => by rw [A.firstE]
  | v :: r, h => by
    obtain ⟨e, b, rfl⟩ := h v List.mem_cons_self
    rw [A.firstE]
    exact firstE_ex r fun v hv => h v (List.mem_cons_of_mem _ hv)
theorem preR_len {e e' : Ex} {d : Nat} (t : Tw e e' d) : (preR e').length = (preR e).length := by
  unfold preR
  rw [t.abs]
  split
  · rfl
  · exact t.len true
theorem stE_tw {s : St} {x : Ex} (t : Tw s.a x 1) (hv : vE s.a 1 = 0) (d : Nat) : stE (withA s x) d = stE s d := by
  obtain ⟨o, nm, mx, a, b, bd, el⟩ := s
  have h1 : absent x = absent a := t.abs
  have h2 : vE x 1 = 0 := t.v
  have h3 : vE a 1 = 0 := hv
  unfold withA stE A.badS A.badM St.op St.name St.mx St.a St.b St.body St.els
  simp only [h1, h2, h3]
theorem preS_tw {s : St} {x : Ex} (t : Tw s.a x 1) (hv : vE s.a 1 = 0) (d : Nat) : (preS (withA s x) d).length = (preS s d).length ∧ A.firstE (preS (withA s x) d) = A.firstE (preS s d) := by
  have hs := stE_tw t hv d
  obtain ⟨o, nm, mx, a, b, bd, el⟩ := s
  have hl : (preR x).length = (preR a).length := preR_len t
  have e1 : A.firstE (preR x) = 0 := firstE_ex _ (Y.preR_ex x)
  have e2 : A.firstE (preR a) = 0 := firstE_ex _ (Y.preR_ex a)
  have hs' : stE (.mk o nm mx x b bd el) d = stE (.mk o nm mx a b bd el) d := hs
  show (preS (.mk o nm mx x b bd el) d).length = _ ∧ A.firstE (preS (.mk o nm mx x b bd el) d) = _
  rw [preS, preS]
  refine ⟨?_, ?_⟩
  · simp only [List.length_cons, List.length_append, hl]
  · simp only [A.firstE, firstE_app, hs', e1, e2]
theorem ckS_tw {s : St} {x : Ex} (t : ∀ f, Y.tyE f x = Y.tyE f s.a) (c : Y.Cx) : Y.ckS c (withA s x) = Y.ckS c s := by
  obtain ⟨o, nm, mx, a, b, bd, el⟩ := s
  have h : Y.tyE c.vis x = Y.tyE c.vis a := t c.vis
  show Y.ckS c (.mk o nm mx x b bd el) = _
  rw [Y.ckS, Y.ckS, h]
theorem ckB_tw {s : St} {x : Ex} (t : ∀ f, Y.tyE f x = Y.tyE f s.a) : ∀ (l m : List St) (c : Y.Cx), Y.ckB c (l ++ withA s x :: m) = Y.ckB c (l ++ s :: m)
  | [], m, c => by rw [List.nil_append, List.nil_append, Y.ckB, Y.ckB, ckS_tw t]
  | y :: r, m, c => by rw [List.cons_append, List.cons_append, Y.ckB, Y.ckB, ckB_tw t r]
theorem withA_op (s : St) (x : Ex) : (withA s x).op = s.op := by obtain ⟨o, nm, mx, a, b, bd, el⟩ := s; rfl
theorem withA_name (s : St) (x : Ex) : (withA s x).name = s.name := by obtain ⟨o, nm, mx, a, b, bd, el⟩ := s; rfl
theorem dels_tw {s : St} {x : Ex} : ∀ (l m : List St) (f : Y.Env), Y.dels f (l ++ withA s x :: m) = Y.dels f (l ++ s :: m)
  | [], m, f => by rw [List.nil_append, List.nil_append, Y.dels, Y.dels, withA_op, withA_name]
  | y :: r, m, f => by rw [List.cons_append, List.cons_append, Y.dels, Y.dels, dels_tw r]
theorem dS_tw {s : St} {x : Ex} : Y.dS (withA s x) = Y.dS s := by
  obtain ⟨o, nm, mx, a, b, bd, el⟩ := s
  show Y.dS (.mk o nm mx x b bd el) = _
  rw [Y.dS, Y.dS]
theorem dB_tw {s : St} {x : Ex} : ∀ (l m : List St), Y.dB (l ++ withA s x :: m) = Y.dB (l ++ s :: m)
  | [], m => by rw [List.nil_append, List.nil_append, Y.dB, Y.dB, dS_tw]
  | y :: r, m => by rw [List.cons_append, List.cons_append, Y.dB, Y.dB, dB_tw r]
theorem flat_app (l m : List V) : ((l ++ m).filterMap V.rooted).flatMap ops = (l.filterMap V.rooted).flatMap ops ++ (m.filterMap V.rooted).flatMap ops := by rw [List.filterMap_append, List.flatMap_append]
theorem fstF_hit {l : List Int} (h : Hit l) (k : Int) : (fstF k l).1 = 25 ∧ (fstF k l).2.2 = true := by
  obtain ⟨a, b, rfl, h⟩ := h
  rw [fstF_app, if_neg (by rw [h]; decide), fstF]
  exact ⟨rfl, rfl⟩
/-- an accepted procedure with an integer of a statement replaced -/
theorem swp_main {p : Pr} {i : Nat} (hi : i < p.body.length) {k : Int} (hk : 0 ≤ k) (hp : checkN p = 0) (hr : (rp p.body[i].a k).2 < 0) :
    checkN (swp p i p.body[i] (rp p.body[i].a k).1) = 12 ∧ (firstN (swp p i p.body[i] (rp p.body[i].a k).1)).1 = 25 ∧ (firstN (swp p i p.body[i] (rp p.body[i].a k).1)).2.2 = true := by
  have hc : (Y.chk p).2 = 0 ∧ (firstN p).2.2 = false := by
    unfold checkN at hp
    by_cases h0 : (Y.chk p).2 = 0
    · rw [if_neg (fun x => x h0)] at hp
      cases hf : (firstN p).2.2
      · exact ⟨h0, rfl⟩
      · rw [if_pos hf] at hp; cases hp
    · rw [if_pos h0] at hp; exact absurd hp h0
  obtain ⟨hchk, hfst⟩ := hc
  have C := (Y.chk_main p).2 hchk
  have hv := C.val
  obtain ⟨v1, v2, v3, v4⟩ := A.val_parts hv
  have hw := A.walk_full v4
  have hcl : (allOps p).any isN = false := by
    have := hfst
    unfold firstN at this
    rw [if_neg (fun x => x hv), fstF_found] at this
    exact this
  obtain ⟨nm, ps, bd⟩ := p
  have hw' : walk ⟨nm, ps, bd⟩ = preB bd 1 := hw
  have hi' : i < bd.length := hi
  show checkN (swp ⟨nm, ps, bd⟩ i bd[i] (rp bd[i].a k).1) = 12 ∧ (firstN (swp ⟨nm, ps, bd⟩ i bd[i] (rp bd[i].a k).1)).1 = 25 ∧ (firstN (swp ⟨nm, ps, bd⟩ i bd[i] (rp bd[i].a k).1)).2.2 = true
  have hr' : (rp bd[i].a k).2 < 0 := hr
  have hsplit : bd = bd.take i ++ bd[i] :: bd.drop (i + 1) := by rw [← List.drop_eq_getElem_cons hi', List.take_append_drop]
  have hset : ∀ y, bd.set i y = bd.take i ++ y :: bd.drop (i + 1) := fun y => by rw [List.set_eq_take_append_cons_drop, if_pos hi']
  unfold swp
  rw [show (Pr.mk nm ps bd).body.set i (withA bd[i] (rp bd[i].a k).1) = bd.take i ++ withA bd[i] (rp bd[i].a k).1 :: bd.drop (i + 1) from hset _]
  show checkN ⟨nm, ps, bd.take i ++ withA bd[i] (rp bd[i].a k).1 :: bd.drop (i + 1)⟩ = 12 ∧ (firstN ⟨nm, ps, bd.take i ++ withA bd[i] (rp bd[i].a k).1 :: bd.drop (i + 1)⟩).1 = 25 ∧ (firstN ⟨nm, ps, bd.take i ++ withA bd[i] (rp bd[i].a k).1 :: bd.drop (i + 1)⟩).2.2 = true
  clear hset hr hi
  generalize bd[i] = s at *
  generalize bd.take i = l at *
  generalize bd.drop (i + 1) = m at *
  clear hi'
  subst hsplit
  -- the statement's own expression
  have hmem : V.st s 1 ∈ preB (l ++ s :: m) 1 := by
    rw [preB_app, preB]
    refine List.mem_append.2 (Or.inr (List.mem_append.2 (Or.inl ?_)))
    obtain ⟨o, nm, mx, a, b, bd, el⟩ := s
    rw [preS]; exact List.mem_cons_self
  have hst : stE s 1 = 0 := A.first_each v3 s 1 (by rw [hw']; exact hmem)
  have hg := A.good_of hst
  have habs : absent s.a = false := by
    cases h : absent s.a
    · rfl
    · rw [rp_absent h] at hr'; omega
  have hua : uA s.op = true := by
    have hf := hg.form
    unfold A.badS at hf
    simp only [Bool.or_eq_false_iff, Bool.and_eq_false_iff, Bool.not_eq_false'] at hf
    obtain ⟨⟨⟨⟨⟨⟨-, -⟩, -⟩, h1⟩, -⟩, -⟩, -⟩ := hf
    rcases h1 with h1 | h1
    · exact h1
    · rw [habs] at h1; cases h1
  have hva := hg.a hua
  have t := rp_tw s.a k 1 hva
  obtain ⟨x, hx⟩ : ∃ x, (rp s.a k).1 = x := ⟨_, rfl⟩
  rw [hx] at t
  -- the sizes and the errors of the walk
  obtain ⟨q1, q2⟩ := preS_tw t hva 1
  have hlen : (preB (l ++ withA s x :: m) 1).length = (preB (l ++ s :: m) 1).length := by
    rw [preB_app, preB_app, preB, preB]
    simp only [List.length_append, q1]
  have hfe : A.firstE (preB (l ++ withA s x :: m) 1) = A.firstE (preB (l ++ s :: m) 1) := by
    rw [preB_app, preB_app, preB, preB]
    simp only [firstE_app, q2]
  have hw2 : walk ⟨nm, ps, l ++ withA s x :: m⟩ = preB (l ++ withA s x :: m) 1 := by
    refine A.walk_full ?_
    unfold walk at v4 ⊢
    rw [List.length_take] at v4 ⊢
    show min 401 (preB (l ++ withA s x :: m) 1).length ≤ 400
    rw [hlen]
    exact v4
  have hv2 : A.valE ⟨nm, ps, l ++ withA s x :: m⟩ = 0 := by
    unfold A.valE
    rw [hw2, hfe, hlen]
    rw [hw'] at v3 v4
    have v1' : A.nam nm = true := v1
    have v2' : A.parE ps = 0 := v2
    show (if A.nam nm = false then (7 : Int) else if A.parE ps ≠ 0 then A.parE ps else _) = 0
    rw [if_neg (by rw [v1']; decide), if_neg (fun z => z v2'), if_neg (fun z => z v3), if_neg (by omega)]
  have hch2 : (Y.chk ⟨nm, ps, l ++ withA s x :: m⟩).2 = (Y.chk ⟨nm, ps, l ++ s :: m⟩).2 := by
    have hn : A.names ⟨nm, ps, l ++ withA s x :: m⟩ = A.names ⟨nm, ps, l ++ s :: m⟩ := by
      rw [Y.names_is hv2, Y.names_is hv]
      show ps.map Pm.name ++ Y.dB (l ++ withA s x :: m) = ps.map Pm.name ++ Y.dB (l ++ s :: m)
      rw [dB_tw]
    have hrun : Y.run ⟨nm, ps, l ++ withA s x :: m⟩ = Y.run ⟨nm, ps, l ++ s :: m⟩ := by
      unfold Y.run Y.lst
      show (if (Y.ckB (Y.cx0.decls ps) (l ++ withA s x :: m)).2 ≠ 0 then _ else (_, _)) = _
      rw [ckB_tw t.ty, dels_tw]
    unfold Y.chk
    rw [hv2, hv, hn, hrun]
    rfl
  have hhit : Hit (allOps ⟨nm, ps, l ++ withA s x :: m⟩) := by
    unfold allOps exprs at hcl ⊢
    rw [hw2]
    rw [hw'] at hcl
    rw [preB_app, preB, flat_app, flat_app] at hcl ⊢
    rw [List.any_append, List.any_append, Bool.or_eq_false_iff, Bool.or_eq_false_iff] at hcl
    obtain ⟨c1, c2, -⟩ := hcl
    refine Hit.after c1 (Hit.more ?_)
    obtain ⟨o, nm2, mx, a, b, bd, el⟩ := s
    show Hit (((preS (.mk o nm2 mx x b bd el) 1).filterMap V.rooted).flatMap ops)
    rw [preS, List.filterMap_cons] at c2 ⊢
    simp only [V.rooted, List.filterMap_append, List.flatMap_append, List.any_append, Bool.or_eq_false_iff] at c2 ⊢
    have habs' : absent a = false := habs
    have ha2 : absent x = false := t.abs.trans habs
    obtain ⟨⟨⟨c2, -⟩, -⟩, -⟩ := c2
    rw [preR_roots, habs', if_neg (by decide), List.flatMap_cons, List.flatMap_nil, List.append_nil] at c2
    rw [preR_roots x, ha2, if_neg (by decide), List.flatMap_cons, List.flatMap_nil, List.append_nil]
    refine Hit.more (Hit.more (Hit.more ?_))
    have hx' : (rp a k).1 = x := hx
    have hr2 : (rp a k).2 < 0 := hr'
    rcases rp_ops a k hk c2 with ⟨h1, -⟩ | ⟨-, h1⟩
    · omega
    · rw [hx'] at h1; exact h1
  have hfst2 : firstN ⟨nm, ps, l ++ withA s x :: m⟩ = fstF 0 (allOps ⟨nm, ps, l ++ withA s x :: m⟩) := by
    unfold firstN
    rw [if_neg (fun z => z hv2)]
  rw [hx]
  obtain ⟨f1, f2⟩ := fstF_hit hhit 0
  refine ⟨?_, by rw [hfst2]; exact f1, by rw [hfst2]; exact f2⟩
  unfold checkN
  rw [hch2, hchk, if_neg (fun z => z rfl), hfst2, if_pos f2]
theorem swp_ok {p : Pr} {i : Nat} (hi : i < p.body.length) (h : OkP p) (k : Int) : OkP (swp p i p.body[i] (rp p.body[i].a k).1) := by
  have hb : ∀ (l : List St) (j : Nat) (y : St), okB l → okS y → okB (l.set j y) := by
    intro l
    induction l with
    | nil => intro j y h _; exact h
    | cons s r ih =>
      intro j y h hy
      rw [okB] at h
      cases j with
      | zero => rw [List.set_cons_zero, okB]; exact ⟨hy, h.2⟩
      | succ j => rw [List.set_cons_succ, okB]; exact ⟨h.1, ih j y h.2 hy⟩
  refine ⟨h.name, h.params, h.each, by show (p.body.set _ _).length ≤ _; rw [List.length_set]; exact h.bodyLen, hb _ _ _ h.body ?_⟩
  have hs := okB.get h.body i hi
  generalize p.body[i] = s at *
  obtain ⟨o, nm, mx, a, b, bd, el⟩ := s
  show okS (.mk o nm mx (rp a k).1 b bd el)
  rw [okS] at hs ⊢
  exact ⟨hs.1, hs.2.1, hs.2.2.1, rp_ok a k hs.2.2.2.1, hs.2.2.2.2⟩
end Go.Proofs.YtgjnddjpinhkgaaDoor.N
namespace Go.Proofs.YtgjnddjpinhkgaaDoor.N
open Go.RowKit
open A (Ex exV exO exV_mk exO_mk okE okEs cE cEs Bx RowK Own1 Stays KidsF kE ET)
open L (below_2 below_box ret_bool)
mutual
theorem rp_rng : ∀ (e : Ex) (k : Int), 0 ≤ k → -1 ≤ (rp e k).2 ∧ (rp e k).2 ≤ k
  | .mk o n s l, k, hk => by
    by_cases ho : o = 1
    · subst ho
      rw [rp_int]
      by_cases h0 : k = 0
      · rw [if_pos h0]; exact ⟨by decide, by show (-1 : Int) ≤ k; omega⟩
      · rw [if_neg h0]; exact ⟨by show -1 ≤ k - 1; omega, by show k - 1 ≤ k; omega⟩
    · rw [rp_node ho]; exact rps_rng l k (by omega)
theorem rps_rng : ∀ (l : List Ex) (k : Int), -1 ≤ k → -1 ≤ (rps l k).2 ∧ (rps l k).2 ≤ k
  | [], k, hk => by rw [rps]; exact ⟨hk, Int.le_refl _⟩
  | e :: r, k, hk => by
    by_cases h : 0 ≤ k
    · rw [rps_cons_pos h]
      have h1 := rp_rng e k h
      have h2 := rps_rng r (rp e k).2 h1.1
      exact ⟨h2.1, by show (rps r (rp e k).2).2 ≤ k; omega⟩
    · rw [rps_neg _ h]; exact ⟨hk, Int.le_refl _⟩
end
def GivesR (Z : Nat → Prop) (w : World) (x : Ex × Int) (e' : Ending) (w' : World) : Prop := ∃ p q, e' = .returned (.tuple #[exV x.1 p q, .int .i64 x.2]) ∧ KidsF Z w' p x.1.args ∧ Below w.heap.size w w'
/-- what the row leaves out: what the caller says, and the call's three boxes -/
def ZB (Z : Nat → Prop) (N : Nat) : Nat → Prop := fun g => Z g ∨ (N ≤ g ∧ g < N + 3)
theorem rp_step {W w7 w8 : World} {N g' cap : Nat} {Z : Nat → Prop} {p : Option Addr} {q : Nat} {lt : List ET} {x : ET} {v0 v1 v2 : Value} {t : TypeId} {ob : Obj} (hZ : ∀ k, Z k → k < N) (hO : Own1 kE w7 (N + 3) (ZB Z N) (.slice p lt.length q) lt)
    (hX : Bx w7 (N + 1 + 1) #[v0, v1, v2, .slice p lt.length q] t) (hB : Below (N + 2) W w7) (hz : N + 3 ≤ w7.heap.size) (hx : KidsF (fun g => ZB Z N g ∨ (Value.slice p lt.length q).ownBlock = some g) w7 x.a x.e.args)
    (h1 : w8.ownsRow (N + 3) kE.e kE.size (.slice (some ⟨g', 0, none⟩) (lt.length + 1) cap) (lt ++ [x]).length (kE.cs (lt ++ [x]))) (h2 : (w7.alloc ob).grownBy w8 (Value.slice p lt.length q).ownBlock) (h3 : (Value.slice p lt.length q).ownBlock = some g' ∨ g' = w7.heap.size + 1) :
    w8.cell? ⟨N + 1 + 1, 3, none⟩ = some (.slice p lt.length q) ∧ w8.frozen? ⟨N + 1 + 1, 3, none⟩ = false ∧ Own1 kE (w8.setCell ⟨N + 1 + 1, 3, none⟩ (.slice (some ⟨g', 0, none⟩) (lt.length + 1) cap)) (N + 3) (ZB Z N) (.slice (some ⟨g', 0, none⟩) (lt.length + 1) cap) (lt ++ [x]) ∧
    Bx (w8.setCell ⟨N + 1 + 1, 3, none⟩ (.slice (some ⟨g', 0, none⟩) (lt.length + 1) cap)) (N + 1 + 1) #[v0, v1, v2, .slice (some ⟨g', 0, none⟩) (lt.length + 1) cap] t ∧
    Below (N + 2) W (w8.setCell ⟨N + 1 + 1, 3, none⟩ (.slice (some ⟨g', 0, none⟩) (lt.length + 1) cap)) ∧ N + 3 ≤ (w8.setCell ⟨N + 1 + 1, 3, none⟩ (.slice (some ⟨g', 0, none⟩) (lt.length + 1) cap)).heap.size := by
  have hO8 := hO.push hx (fun k hk => by
    rcases hk with hk | hk
    · have := hZ k hk; omega
    · omega) h1 h2 h3
  have hblk : w8.heap[N + 1 + 1]? = w7.heap[N + 1 + 1]? := (h2.block (N + 1 + 1) (by simp; omega) (fun e => by have := (hO.lt _ e.symm).1; omega)).trans (Below.heap_alloc w7 ob _ (by omega))
  have hX8 := hX.keep hblk
  have hB8 : Below (N + 3) w7 w8 := hO.frame (Below.refl _ _) hz h2
  have hs := h2.size
  rw [World.size_alloc] at hs
  refine ⟨hX8.cell 3, hX8.free 3, ?_, hX8.set 3, ?_, ?_⟩
  · refine hO8.next ⟨fun k hk hz2 => Below.heap_setCell _ _ _ _ (fun e => hz2 (Or.inr ?_)), fun k hk => Or.inl hk⟩
    have e' : k = N + 1 + 1 := e
    omega
  · exact (hB.trans (hB8.mono (by omega))).setCell (by show N + 2 ≤ N + 1 + 1; omega) _
  · simp; omega
def QRp (e : Ex) : Prop := ∀ (Z : Nat → Prop) (a : Option Addr) (c : Nat) (k : Int) (w : World), okE e → cE e ≤ 1000000 → 0 ≤ k → k ≤ 1000 → (∀ j, Z j → j < w.heap.size) → KidsF Z w a e.args →
  Calls Tryd.prog 27 #[exV e a c, .int .i64 k] w (GivesR Z w (rp e k))
set_option maxHeartbeats 2000000 in
set_option maxRecDepth 100000 in
theorem lreplaced_any : ∀ e, QRp e := by
  refine A.Ex.ind (P := QRp) ?_
  intro o n s l ih Z a c k w hok hsz hk0 hk1 hZ hK
  obtain ⟨_, hl, hoks⟩ := A.okE_open hok
  have hsz2 : 1 + s.size / 64 + cEs l ≤ 1000000 := by rw [cE] at hsz; exact hsz
  have HS : Hid (∀ k (h : k < l.length), cE l[k] ≤ 1000000) := fun k h => by have := A.cEs_get h; omega
  have hlm : l.length ≤ 1000000 := by have := A.cEs_len l; omega
  have HIH := Lib.hid ih
  have HOK := Lib.hid hoks
  have HK : Hid (KidsF Z w a l) := hK
  have HZ := Lib.hid hZ
  have hbx1 := Bx.new w #[.int .i64 o, .int .i64 n, .string s, .slice a l.length c] 52
  have hbx2 := Bx.new (w.alloc (exO (.mk o n s l) a c)) #[.int .i64 0, .int .i64 0, .string ⟨#[]⟩, .slice none 0 0] 52
  have hw2 := below_2 (below_box w (exO (.mk o n s l) a c)) (below_box (w.alloc (exO (.mk o n s l) a c)) (.cells #[.int .i64 0, .int .i64 0, .string ⟨#[]⟩, .slice none 0 0] 52))
  have hP4 : (w.alloc (exO (.mk o n s l) a c)).heap.size = w.heap.size + 1 := by simp
  have hsz3 : ((w.alloc (exO (.mk o n s l) a c)).alloc (.cells #[.int .i64 0, .int .i64 0, .string ⟨#[]⟩, .slice none 0 0] 52)).heap.size = w.heap.size + 2 := by simp
  rw [hP4] at hbx2
  have hbx1' := hbx1.below (below_box _ (.cells #[.int .i64 0, .int .i64 0, .string ⟨#[]⟩, .slice none 0 0] 52)) 
  have HX1 := Lib.hid hbx1'
  have HX2 := Lib.hid hbx2
  have HW2 := Lib.hid hw2
  have HZ3 := Lib.hid hsz3
  obtain ⟨m, hm⟩ : ∃ m, l.length = m := ⟨_, rfl⟩
  have HL := Lib.hid hm
  simp only [exV_mk, exO_mk] at HX1 HX2 HW2 HZ3 ⊢
  rw [hm] at HX1 HX2 HW2 HZ3 hlm ⊢
  clear hok hoks hsz hsz2 ih hK hbx1 hbx2 hbx1' hw2 hP4 hsz3 hl hZ
  by_cases h1 : o = 1
  · subst h1
    rw [rp_int]
    by_cases h0 : k = 0
    · subst h0
      rw [if_pos rfl]
      have HV := Lib.hid (below_2 (below_box w (.cells #[.int .i64 1, .int .i64 n, .string s, .slice a m c] 52)) (below_box (w.alloc (.cells #[.int .i64 1, .int .i64 n, .string s, .slice a m c] 52)) (.cells #[.int .i64 25, .int .i64 0, .string ⟨#[]⟩, .slice none 0 0] 52)))
      clear hm
      go_enter Tryd.func27, Tryd.ntmps27
      go_wp2_with fail
      refine bodyPost_ret (v := .tuple #[.agg #[.int .i64 25, .int .i64 0, .string ⟨#[]⟩, .slice none 0 0], .int .i64 (-1)]) (by simp [results, Tryd.results27, go_sem]) rfl ?_
      refine ⟨none, 0, rfl, Or.inl rfl, ?_⟩
      exact HV.out
    · have b0 : (k == 0) = false := beq_eq_false_iff_ne.2 h0
      rw [if_neg h0]
      have hV : ∀ e', e' = .returned (.tuple #[.agg #[.int .i64 1, .int .i64 n, .string s, .slice a m c], .int .i64 (k - 1)]) → GivesR Z w (.mk 1 n s l, k - 1) e' ((w.alloc (.cells #[.int .i64 1, .int .i64 n, .string s, .slice a m c] 52)).alloc (.cells #[.int .i64 1, .int .i64 n, .string s, .slice a m c] 52)) := by
        rintro e' rfl
        have hb := below_2 (below_box w (.cells #[.int .i64 1, .int .i64 n, .string s, .slice a m c] 52)) (below_box (w.alloc (.cells #[.int .i64 1, .int .i64 n, .string s, .slice a m c] 52)) (.cells #[.int .i64 1, .int .i64 n, .string s, .slice a m c] 52))
        refine ⟨a, c, ?_, KidsF.next HK.out (Stays.below hb fun _ h => Or.inl h), hb⟩
        show _ = Ending.returned (.tuple #[exV (.mk 1 n s l) a c, _])
        rw [exV_mk, HL.out]
      have HV := Lib.hid hV
      clear hm h0 hV
      go_enter Tryd.func27, Tryd.ntmps27
      have x0 := HX1.out.cell 0
      have x1 := HX1.out.cell 1
      have x2 := HX1.out.cell 2
      have x3 := HX1.out.cell 3
      simp only [List.getElem?_toArray, List.getElem?_cons_zero, List.getElem?_cons_succ] at x0 x1 x2 x3
      go_wp2_with fail
      refine bodyPost_ret (v := .tuple #[.agg #[.int .i64 1, .int .i64 n, .string s, .slice a m c], .int .i64 (k - 1)]) (by simp [results, Tryd.results27, go_sem]) rfl ?_
      exact HV.out _ rfl
  have b1 : (o == 1) = false := beq_eq_false_iff_ne.2 h1
  rw [rp_node h1]
  clear h1 hm
  go_enter Tryd.func27, Tryd.ntmps27
  have x0 := HX1.out.cell 0
  have x1 := HX1.out.cell 1
  have x2 := HX1.out.cell 2
  have x3 := HX1.out.cell 3
  simp only [List.getElem?_toArray, List.getElem?_cons_zero, List.getElem?_cons_succ] at x0 x1 x2 x3
  have hbx3 := Bx.new ((w.alloc (.cells #[.int .i64 o, .int .i64 n, .string s, .slice a m c] 52)).alloc (.cells #[.int .i64 0, .int .i64 0, .string ⟨#[]⟩, .slice none 0 0] 52)) #[.int .i64 o, .int .i64 n, .string s, .slice none 0 0] 52
  rw [HZ3.out] at hbx3
  have hb3 := below_box ((w.alloc (.cells #[.int .i64 o, .int .i64 n, .string s, .slice a m c] 52)).alloc (.cells #[.int .i64 0, .int .i64 0, .string ⟨#[]⟩, .slice none 0 0] 52)) (.cells #[.int .i64 o, .int .i64 n, .string s, .slice none 0 0] 52)
  have hz4 : (((w.alloc (.cells #[.int .i64 o, .int .i64 n, .string s, .slice a m c] 52)).alloc (.cells #[.int .i64 0, .int .i64 0, .string ⟨#[]⟩, .slice none 0 0] 52)).alloc (.cells #[.int .i64 o, .int .i64 n, .string s, .slice none 0 0] 52)).heap.size = w.heap.size + 3 := by simp
  have hy1 := HX1.out.below hb3
  have hy2 := HX2.out.below hb3
  have hyw := below_2 HW2.out hb3
  go_wp2_with fail
  clear x0 x1 x2 x3 HX1 HX2 HW2 HZ3 hb3
  generalize ((w.alloc (.cells #[.int .i64 o, .int .i64 n, .string s, .slice a m c] 52)).alloc (.cells #[.int .i64 0, .int .i64 0, .string ⟨#[]⟩, .slice none 0 0] 52)).alloc (.cells #[.int .i64 o, .int .i64 n, .string s, .slice none 0 0] 52) = W at *
  have HX1 := Lib.hid hy1
  have HX2 := Lib.hid hy2
  have HX3 : Hid (Bx W (w.heap.size + 1 + 1) #[.int .i64 o, .int .i64 n, .string s, .slice none 0 0] 52) := hbx3
  have HZW := Lib.hid hz4
  have HWW := Lib.hid hyw
  clear hy1 hy2 hbx3 hz4 hyw
  go_loopw [1, 7] (fun s1 i wr => ∃ (j : Nat) (kk : Int) (lt : List ET) (p : Option Addr) (q : Nat), j ≤ m ∧ s1 = .int .i64 kk ∧ i = .int .i64 j ∧ Hid (-1 ≤ kk ∧ kk ≤ 1000) ∧ Hid (Own1 kE wr (w.heap.size + 3) (ZB Z w.heap.size) (.slice p lt.length q) lt) ∧
    Hid (lt.map ET.e ++ (rps (l.drop j) kk).1 = (rps l k).1 ∧ (rps (l.drop j) kk).2 = (rps l k).2 ∧ lt.length = j) ∧ Hid (Bx wr (w.heap.size + 1 + 1) #[.int .i64 o, .int .i64 n, .string s, .slice p lt.length q] 52) ∧ Hid (Below (w.heap.size + 2) W wr ∧ w.heap.size + 3 ≤ wr.heap.size)) (fun _ i _ => m - (intOf i).toNat)
  case atStart => exact ⟨0, k, [], none, 0, Nat.zero_le _, rfl, rfl, ⟨by omega, hk1⟩, Own1.nil, ⟨by simp, rfl, rfl⟩, HX3.out, Below.refl _ _, by rw [HZW.out]; exact Nat.le_refl _⟩
  case round =>
    obtain ⟨j, kk, lt, p, q, hj, rfl, rfl, HKK, HO, HE, HX, HB⟩ := hrel
    have HBw : Hid (Below w.heap.size w wr) := HWW.out.trans (HB.out.1.mono (by omega))
    have hX1 := HX1.out.keep (HB.out.1.block w.heap.size (by omega))
    have z3 := hX1.cell 3
    simp only [List.getElem?_toArray, List.getElem?_cons_zero, List.getElem?_cons_succ] at z3
    have hzr := HB.out.2
    clear hX1
    by_cases hlt : j < m
    · have hlx : j < l.length := by rw [HL.out]; exact hlt
      obtain ⟨b2, i2, rfl, hat⟩ := A.Kids.open (w := A.hollow Z w) HK.out hlx
      obtain ⟨d0, d1, d2, a4, c4, d3, hk4⟩ := hat.open
      have e0 := A.hollow_now Z w _ _ _ d0
      have e1 := A.hollow_now Z w _ _ _ d1
      have e2 := A.hollow_now Z w _ _ _ d2
      have e3 := A.hollow_now Z w _ _ _ d3
      have d0 := (HBw.out.cell (block_lt_of_cell e0)).trans e0
      have d1 := (HBw.out.cell (block_lt_of_cell e1)).trans e1
      have d2 := (HBw.out.cell (block_lt_of_cell e2)).trans e2
      have d3 := (HBw.out.cell (block_lt_of_cell e3)).trans e3
      clear e0 e1 e2 e3
      have hk4 : KidsF Z w a4 l[j].args := hk4
      have hbx := below_box wr (exO l[j] a4 c4)
      have HLL := Lib.hid HE.out.2.2
      have hog : ∀ g, (Value.slice p lt.length q).ownBlock = some g → w.heap.size + 3 ≤ g ∧ g < wr.heap.size := HO.out.lt
      -- what the child's call may not touch
      have hkZ : ∀ w', Below wr.heap.size wr w' → KidsF (fun g => (ZB Z w.heap.size g ∨ (Value.slice p lt.length q).ownBlock = some g) ∨ g = wr.heap.size) w' a4 l[j].args := fun w' hb => KidsF.next hk4 (Stays.below (HBw.out.trans (hb.mono (by omega))) fun g hg => by
        rcases hg with ((hg | hg) | hg) | hg
        · exact Or.inl hg
        · exact Or.inr hg.1
        · exact Or.inr (by have := (hog g hg).1; omega)
        · exact Or.inr (by omega))
      have HKZ := Lib.hid hkZ
      have HC : Hid (∀ w', Below wr.heap.size wr w' → wr.heap.size < w'.heap.size → 0 ≤ kk → Calls Tryd.prog 27 #[exV l[j] a4 c4, .int .i64 kk] w' (GivesR (fun g => (ZB Z w.heap.size g ∨ (Value.slice p lt.length q).ownBlock = some g) ∨ g = wr.heap.size) w' (rp l[j] kk))) := fun w' hb hs h0 =>
        HIH.out j hlx _ a4 c4 kk w' (HOK.out.get j hlx) (HS.out j hlx) h0 HKK.out.2 (fun g hg => by
          rcases hg with ((hg | hg) | hg) | hg
          · have := HZ.out g hg; omega
          · omega
          · have := (hog g hg).2; omega
          · omega) (hkZ w' hb)
      have HOG := Lib.hid hog
      have HBX := Lib.hid hbx
      have HX8 := Lib.hid (Bx.new wr #[.int .i64 l[j].op, .int .i64 l[j].n, .string l[j].s, .slice a4 l[j].args.length c4] 52)
      have hE := HE.out
      rw [List.drop_eq_getElem_cons hlx] at hE
      have hrg := fun h => rp_rng l[j] kk h
      have HE2 := Lib.hid hE
      have HRG := Lib.hid hrg
      clear hat hk4 hbx hog hkZ hE hrg HE
      generalize l[j] = y at *
      unfold exV at HC
      unfold exO at HBX
      obtain ⟨yo, yn, ys, yl⟩ := y
      simp only [Ex.op, Ex.n, Ex.s, Ex.args] at d0 d1 d2 d3 HC HBX HKZ HX8
      by_cases hkk : 0 ≤ kk
      · have HC2 := Lib.hid (HC.out _ HBX.out (by simp) hkk)
        have g2 : decide (kk ≥ 0) = true := decide_eq_true hkk
        have HE3 := HE2.out
        have HRG3 := HRG.out hkk
        rw [rps_cons_pos hkk] at HE3
        have HE2 := Lib.hid HE3
        have HRG := Lib.hid HRG3
        clear HE3 HRG3
        go_wp2_with fail
        refine HC2.out.mono ?_; rintro e' w5 ⟨p5, q5, rfl, hk5, hb5⟩
        have HK5 := Lib.hid hk5
        have HB5 := Lib.hid (below_2 HBX.out hb5)
        have hX5 := HX8.out.below hb5
        clear hk5 hb5 g2
        generalize rp (.mk yo yn ys yl) kk = r at *
        obtain ⟨⟨ro, rn, rs, rl⟩, rk⟩ := r
        simp only [exV_mk] 
        have hb6 := below_box w5 (.cells #[.int .i64 ro, .int .i64 rn, .string rs, .slice p5 rl.length q5] 52)
        have hz5 := HB5.out.size
        have hX6 := hX5.below hb6
        have x0 := hX6.cell 0
        have x1 := hX6.cell 1
        have x2 := hX6.cell 2
        have x3 := hX6.cell 3
        have f0 := hX6.free 0
        have f1 := hX6.free 1
        have f2 := hX6.free 2
        have f3 := hX6.free 3
        have hy5 := (HX.out.below HB5.out).below hb6
        have y3 := hy5.cell 3
        simp only [List.getElem?_toArray, List.getElem?_cons_zero, List.getElem?_cons_succ] at x0 x1 x2 x3 y3
        have hb7 : Below wr.heap.size wr (((((w5.alloc (.cells #[.int .i64 ro, .int .i64 rn, .string rs, .slice p5 rl.length q5] 52)).setCell ⟨wr.heap.size, 0, none⟩ (.int .i64 ro)).setCell ⟨wr.heap.size, 1, none⟩ (.int .i64 rn)).setCell ⟨wr.heap.size, 2, none⟩ (.string rs)).setCell ⟨wr.heap.size, 3, none⟩ (.slice p5 rl.length q5)) :=
          ((((HB5.out.trans (hb6.mono hz5)).setCell (p := ⟨wr.heap.size, 0, none⟩) (Nat.le_refl _) _).setCell (p := ⟨wr.heap.size, 1, none⟩) (Nat.le_refl _) _).setCell (p := ⟨wr.heap.size, 2, none⟩) (Nat.le_refl _) _).setCell (p := ⟨wr.heap.size, 3, none⟩) (Nat.le_refl _) _
        have hk7 : KidsF (fun g => ZB Z w.heap.size g ∨ (Value.slice p lt.length q).ownBlock = some g) (((((w5.alloc (.cells #[.int .i64 ro, .int .i64 rn, .string rs, .slice p5 rl.length q5] 52)).setCell ⟨wr.heap.size, 0, none⟩ (.int .i64 ro)).setCell ⟨wr.heap.size, 1, none⟩ (.int .i64 rn)).setCell ⟨wr.heap.size, 2, none⟩ (.string rs)).setCell ⟨wr.heap.size, 3, none⟩ (.slice p5 rl.length q5)) p5 rl := by
          refine KidsF.next HK5.out ⟨fun g hg hz => ?_, fun g hg => Or.inl (Or.inl hg)⟩
          have hne : g ≠ wr.heap.size := fun e => hz (Or.inr e)
          rw [Below.heap_setCell _ _ _ _ hne, Below.heap_setCell _ _ _ _ hne, Below.heap_setCell _ _ _ _ hne, Below.heap_setCell _ _ _ _ hne]
          exact hb6.block g hg
        have hs7 : (((((w5.alloc (.cells #[.int .i64 ro, .int .i64 rn, .string rs, .slice p5 rl.length q5] 52)).setCell ⟨wr.heap.size, 0, none⟩ (.int .i64 ro)).setCell ⟨wr.heap.size, 1, none⟩ (.int .i64 rn)).setCell ⟨wr.heap.size, 2, none⟩ (.string rs)).setCell ⟨wr.heap.size, 3, none⟩ (.slice p5 rl.length q5)).heap.size = w5.heap.size + 1 := by simp
        have HO7 := Lib.hid (HO.out.below hb7)
        have HX7 := Lib.hid (HX.out.below hb7)
        have HB7 := Lib.hid hb7
        have HK7 := Lib.hid hk7
        have HS7 := Lib.hid hs7
        clear hX5 hX6 hb6 hy5 hb7 hk7 hs7 HC2 HC
        go_wp2_with (at_builtin; refine kE.wpList rfl (.tmp 45) (.tmp 47) rfl (w.heap.size + 3) (.slice p lt.length q) lt rfl HO7.out.row ⟨.mk ro rn rs rl, p5, q5⟩ _ rfl (w5.heap.size + 1) rfl HS7.out.symm (by have := HLL.out; omega) (by rw [HS7.out]; omega) ?_; intro g6 cap6 w6 hown6 hgrow6 hlie6; obtain ⟨s1, s2, s3, s4, s5, s6⟩ := rp_step HZ.out HO7.out HX7.out (HB.out.1.trans (HB7.out.mono (by omega))) (by rw [HS7.out]; omega) (x := ⟨.mk ro rn rs rl, p5, q5⟩) HK7.out hown6 hgrow6 hlie6; have S3 := Lib.hid s3; have S4 := Lib.hid s4; have S5 := Lib.hid s5; have S6 := Lib.hid s6; clear s3 s4 s5 s6 hown6 hgrow6 hlie6)
        have hl6 : (lt ++ [(⟨.mk ro rn rs rl, p5, q5⟩ : ET)]).length = lt.length + 1 := by simp
        have HL6 := Lib.hid hl6
        have HE6 : Hid ((lt ++ [(⟨.mk ro rn rs rl, p5, q5⟩ : ET)]).map ET.e ++ (rps (l.drop (j + 1)) rk).1 = (rps l k).1 ∧ (rps (l.drop (j + 1)) rk).2 = (rps l k).2 ∧ (lt ++ [(⟨.mk ro rn rs rl, p5, q5⟩ : ET)]).length = j + 1) := by
          refine ⟨?_, HE2.out.2.1, by rw [hl6, HLL.out]⟩
          rw [List.map_append, List.append_assoc]; exact HE2.out.1
        have HKR : Hid (-1 ≤ rk ∧ rk ≤ 1000) := ⟨HRG.out.1, by have h1 := HRG.out.2; have h2 := HKK.out.2; show rk ≤ 1000; have h3 : rk ≤ kk := h1; omega⟩
        clear hl6
        go_roundw
        case rel => exact ⟨j + 1, rk, lt ++ [(⟨.mk ro rn rs rl, p5, q5⟩ : ET)], some ⟨g6, 0, none⟩, cap6, by omega, rfl, by go_num, HKR, by show Own1 _ _ _ _ _ _; rw [HL6.out]; exact S3.out, HE6, by show Bx _ _ _ _; rw [HL6.out]; exact S4.out, S5.out, S6.out⟩
        case measure => simp [intOf]; omega
      · have g2 : decide (kk ≥ 0) = false := decide_eq_false hkk
        have HN := Lib.hid hkk
        have HE3 := HE2.out
        rw [rps_neg _ hkk] at HE3
        have HE2 := Lib.hid HE3
        have hX5 := HX.out.below HBX.out
        have y3 := hX5.cell 3
        simp only [List.getElem?_toArray, List.getElem?_cons_zero, List.getElem?_cons_succ] at y3
        have HO5 := Lib.hid (HO.out.below HBX.out)
        have HX5 := Lib.hid hX5
        have hzb : (wr.alloc (.cells #[.int .i64 yo, .int .i64 yn, .string ys, .slice a4 yl.length c4] 52)).heap.size = wr.heap.size + 1 := by simp
        have HZ5 := Lib.hid hzb
        clear HE3 hX5 HC hzb
        go_wp2_with (at_builtin; refine kE.wpList rfl (.tmp 45) (.tmp 47) rfl (w.heap.size + 3) (.slice p lt.length q) lt rfl HO5.out.row ⟨.mk yo yn ys yl, a4, c4⟩ _ rfl (wr.heap.size + 1) rfl HZ5.out.symm (by have := HLL.out; omega) (by rw [HZ5.out]; omega) ?_; intro g6 cap6 w6 hown6 hgrow6 hlie6; obtain ⟨s1, s2, s3, s4, s5, s6⟩ := rp_step HZ.out HO5.out HX5.out (HB.out.1.trans (HBX.out.mono (by omega))) (by rw [HZ5.out]; omega) (x := ⟨.mk yo yn ys yl, a4, c4⟩) (KidsF.next (HKZ.out _ HBX.out) ⟨fun _ _ _ => rfl, fun g hg => Or.inl (Or.inl hg)⟩) hown6 hgrow6 hlie6; have S3 := Lib.hid s3; have S4 := Lib.hid s4; have S5 := Lib.hid s5; have S6 := Lib.hid s6; clear s3 s4 s5 s6 hown6 hgrow6 hlie6)
        have hl6 : (lt ++ [(⟨.mk yo yn ys yl, a4, c4⟩ : ET)]).length = lt.length + 1 := by simp
        have HL6 := Lib.hid hl6
        have HE6 : Hid ((lt ++ [(⟨.mk yo yn ys yl, a4, c4⟩ : ET)]).map ET.e ++ (rps (l.drop (j + 1)) kk).1 = (rps l k).1 ∧ (rps (l.drop (j + 1)) kk).2 = (rps l k).2 ∧ (lt ++ [(⟨.mk yo yn ys yl, a4, c4⟩ : ET)]).length = j + 1) := by
          refine ⟨?_, ?_, by rw [hl6, HLL.out]⟩
          · rw [rps_neg _ HN.out, List.map_append, List.append_assoc]; exact HE2.out.1
          · rw [rps_neg _ HN.out]; exact HE2.out.2.1
        clear hl6
        go_roundw
        case rel => exact ⟨j + 1, kk, lt ++ [(⟨.mk yo yn ys yl, a4, c4⟩ : ET)], some ⟨g6, 0, none⟩, cap6, by omega, rfl, by go_num, HKK, by show Own1 _ _ _ _ _ _; rw [HL6.out]; exact S3.out, HE6, by show Bx _ _ _ _; rw [HL6.out]; exact S4.out, S5.out, S6.out⟩
        case measure => simp [intOf]; omega
    · have x0 := HX.out.cell 0
      have x1 := HX.out.cell 1
      have x2 := HX.out.cell 2
      have x3 := HX.out.cell 3
      have hX2 := HX2.out.keep (HB.out.1.block (w.heap.size + 1) (by omega))
      have e0 := hX2.cell 0
      have e1 := hX2.cell 1
      have e2 := hX2.cell 2
      have e3 := hX2.cell 3
      have f0 := hX2.free 0
      have f1 := hX2.free 1
      have f2 := hX2.free 2
      have f3 := hX2.free 3
      simp only [List.getElem?_toArray, List.getElem?_cons_zero, List.getElem?_cons_succ] at x0 x1 x2 x3 e0 e1 e2 e3
      have hX9 := (((hX2.set 0 (u := .int .i64 o)).set 1 (u := .int .i64 n)).set 2 (u := .string s)).set 3 (u := .slice p lt.length q)
      have q0 := hX9.cell 0
      have q1 := hX9.cell 1
      have q2 := hX9.cell 2
      have q3 := hX9.cell 3
      simp at q0 q1 q2 q3
      have HV : Hid (GivesR Z w (.mk o n s (rps l k).1, (rps l k).2) (.returned (.tuple #[.agg #[.int .i64 o, .int .i64 n, .string s, .slice p lt.length q], .int .i64 kk])) ((((wr.setCell ⟨w.heap.size + 1, 0, none⟩ (.int .i64 o)).setCell ⟨w.heap.size + 1, 1, none⟩ (.int .i64 n)).setCell ⟨w.heap.size + 1, 2, none⟩ (.string s)).setCell ⟨w.heap.size + 1, 3, none⟩ (.slice p lt.length q))) := by
        have hjm : j = m := by omega
        have hd : l.drop j = [] := List.drop_of_length_le (by rw [HL.out, hjm]; exact Nat.le_refl _)
        have hE := HE.out
        rw [hd, rps, List.append_nil] at hE
        obtain ⟨h1, h2, h3⟩ := hE
        have hlen : lt.length = (rps l k).1.length := by rw [← h1, List.length_map]
        refine ⟨p, q, ?_, ?_, ?_⟩
        · rw [exV_mk, ← hlen]
          show _ = Ending.returned (.tuple #[_, .int .i64 (rps l k).2])
          rw [← h2]
        · show KidsF _ _ p (rps l k).1
          rw [← h1]
          refine HO.out.kids.next ⟨fun g hg hz => ?_, fun g hg => Or.inl (Or.inl hg)⟩
          have hne : g ≠ w.heap.size + 1 := fun e => hz (Or.inr (by omega))
          rw [Below.heap_setCell _ _ _ _ hne, Below.heap_setCell _ _ _ _ hne, Below.heap_setCell _ _ _ _ hne, Below.heap_setCell _ _ _ _ hne]
        · exact (((HBw.out.setCell (p := ⟨w.heap.size + 1, 0, none⟩) (Nat.le_succ _) _).setCell (p := ⟨w.heap.size + 1, 1, none⟩) (Nat.le_succ _) _).setCell (p := ⟨w.heap.size + 1, 2, none⟩) (Nat.le_succ _) _).setCell (p := ⟨w.heap.size + 1, 3, none⟩) (Nat.le_succ _) _
      clear hX2 hX9
      go_wp2_with fail
      refine bodyPost_ret (v := .tuple #[.agg #[.int .i64 o, .int .i64 n, .string s, .slice p lt.length q], .int .i64 kk]) (by simp [results, Tryd.results27, go_sem, q0, q1, q2, q3]) rfl ?_
      exact HV.out
end Go.Proofs.YtgjnddjpinhkgaaDoor.N
namespace Go.Proofs.YtgjnddjpinhkgaaDoor.N
open Go.RowKit
open A (Ex St exV exO okE Bx RowK Own1 Stays KidsF BodiesF kE ET kS SX StsAt StAt put4)
open L (below_2 below_box)
theorem bodiesF_of {w : World} {a : Option Addr} {l : List St} (h : A.Bodies w a l) : BodiesF (fun _ => False) w a l :=
  A.Bodies.sub (fun _ _ _ hv => (A.hollow_cell _ _ _ _ _).2 ⟨fun x => x, hv⟩) h
theorem sxs_of {W : World} {b : Nat} : ∀ (l : List St) (i : Nat), StsAt W l b i → ∃ lt : List SX, lt.map SX.s = l ∧ (∀ j (h : j < lt.length) r, r < 13 → W.cell? ⟨b, i + j * 13 + r, none⟩ = (kS.f lt[j])[r]?) ∧
    (∀ x ∈ lt, A.Kids W x.a1 x.s.a.args ∧ A.Kids W x.a2 x.s.b.args ∧ A.Bodies W x.a3 x.s.body ∧ A.Bodies W x.a4 x.s.els)
  | [], _, _ => ⟨[], rfl, fun j h => absurd h (Nat.not_lt_zero _), fun x hx => (nomatch hx)⟩
  | s :: r, i, h => by
    rw [StsAt] at h
    obtain ⟨lt, h1, h2, h3⟩ := sxs_of r (i + 13) h.2
    obtain ⟨a1, c1, a2, c2, a3, c3, a4, c4, hc, hk⟩ := h.1.open
    refine ⟨⟨s, a1, c1, a2, c2, a3, c3, a4, c4⟩ :: lt, by rw [List.map_cons, h1], fun j hj k hr => ?_, fun x hx => ?_⟩
    · cases j with
      | zero =>
        obtain ⟨k0, k1, k2, k3, k4, k5, k6, k7, k8, k9, k10, k11, k12⟩ := hc
        rw [Nat.zero_mul, Nat.add_zero]
        rcases k with _ | _ | _ | _ | _ | _ | _ | _ | _ | _ | _ | _ | _ | k
        · exact k0
        · exact k1
        · exact k2
        · exact k3
        · exact k4
        · exact k5
        · exact k6
        · exact k7
        · exact k8
        · exact k9
        · exact k10
        · exact k11
        · exact k12
        · omega
      | succ j =>
        have := h2 j (by simpa using hj) k hr
        rw [show i + (j + 1) * 13 + k = i + 13 + j * 13 + k by omega]
        simpa using this
    · rcases List.mem_cons.1 hx with rfl | hx
      · exact ⟨hk.a, hk.b, hk.body, hk.els⟩
      · exact h3 x hx
theorem flat_getS (l : List SX) (j : Nat) (u : Value) (h : (kS.cs l)[j]? = some u) : ∃ (hj : j / 13 < l.length), (kS.f l[j / 13])[j % 13]? = some u := by
  have hlt := (List.getElem?_eq_some_iff.1 h).1
  rw [RowK.cs_len] at hlt
  have hs : kS.size = 13 := rfl
  rw [hs] at hlt
  have hj : j / 13 < l.length := by omega
  have hg := RowK.cs_get kS l (j / 13) hj (j % 13) (by rw [hs]; omega)
  rw [hs, show j / 13 * 13 + j % 13 = j by omega, h] at hg
  exact ⟨hj, hg.symm⟩
/-- statements copied into a row of the call's own -/
theorem wpList_append_sts {w : World} {ops : Array Oper} {rest : List Oper} {o : Oper} {a : Act} {Q : Exit → Act → World → Prop} (hgd : o.guard = none) (s x : Operand)
    (ho : o.op = .call { callee := .builtin .append, args := #[s, x], argTypes := #[23, 23] }) (Z : Nat → Prop) (hZ : ∀ k, Z k → k < w.heap.size)
    (l : List St) (hs : a.eval s = .slice none 0 0) (xa : Option Addr) (mm xc : Nat) (hmm : mm = l.length) (hx : a.eval x = .slice xa mm xc) (hP : BodiesF Z w xa l) (hm0 : 0 < l.length) (hl : l.length ≤ 1000000)
    (h : ∀ q' w' (lt : List SX), lt.map SX.s = l → Own1 kS w' w.heap.size Z (.slice (some ⟨w.heap.size, 0, none⟩) lt.length q') lt → Below w.heap.size w w' → Go.wpList Tryd.prog ops Q rest (a.put o.dst (.slice (some ⟨w.heap.size, 0, none⟩) mm q')) w') :
    Go.wpList Tryd.prog ops Q (o :: rest) a w := by
  subst hmm
  obtain ⟨i0, hi, hz0, hz1, hz2⟩ := A.info_parts3 kS.info
  rcases hP with h0 | ⟨b, i, rfl, hc⟩
  · rw [h0] at hm0; exact absurd hm0 (Nat.lt_irrefl _)
  · obtain ⟨lt, e1, e2, e3⟩ := sxs_of l i hc
    have hlen : lt.length = l.length := by rw [← e1, List.length_map]
    refine wpList_append_lies _ hgd s x kS.t ho w.heap.size kS.e i0 _ kS.size kS.bytes kS.und hi hz0 hz1 hz2 kS.zs kS.pos (.slice none 0 0) 0 [] hs (Own1.nil (K := kS) (Z := fun _ => False)).row ⟨b, i, none⟩ l.length xc (kS.cs lt) hx (by rw [RowK.cs_len, hlen]) ?_ ?_ (by omega) (by unfold maxLen; omega) ?_ (Nat.le_refl _) w.heap.size rfl ?_
    · intro j u hu
      obtain ⟨hj, hu⟩ := flat_getS lt j u hu
      rw [WideShapes.add_plain]
      have h2 := e2 (j / 13) hj (j % 13) (by omega)
      rw [show i + j / 13 * 13 + j % 13 = i + j by omega, hu] at h2
      exact A.hollow_now Z w _ _ _ h2
    · intro u hu
      obtain ⟨y, hy, hu⟩ := List.mem_flatMap.1 hu
      exact kS.one y u hu
    · show (0 + l.length) * 192 ≤ _
      omega
    · intro g cap w' h1 h2 h3 _
      have hg : g = w.heap.size := by
        rcases h3 with h3 | h3
        · cases h3
        · exact h3
      subst hg
      have hb : Below w.heap.size w w' := (Below.refl _ _).grown h2 (Nat.le_refl _) (fun g hg => by cases hg)
      rw [Nat.zero_add, List.nil_append] at h1
      rw [Nat.zero_add]
      refine h cap w' lt e1 ⟨?_, fun g hg hz => ?_, fun x hx => ?_⟩ hb
      · rw [hlen]; exact h1
      · have hg2 : w.heap.size = g := by injection hg
        have := hZ g hz
        omega
      · obtain ⟨g1, g2, g3, g4⟩ := e3 x hx
        have hst : Stays Z (fun k => Z k ∨ (Value.slice (some ⟨w.heap.size, 0, none⟩) lt.length cap).ownBlock = some k) w w' := Stays.below hb fun k hk => by
          rcases hk with hk | hk
          · exact Or.inl hk
          · injection hk with hk; exact Or.inr (Nat.le_of_eq hk)
        exact ⟨KidsF.next g1 hst, KidsF.next g2 hst, BodiesF.next g3 hst, BodiesF.next g4 hst⟩
theorem row_open {w : World} {b0 g q : Nat} {Z : Nat → Prop} {lt : List SX} (h : Own1 kS w b0 Z (.slice (some ⟨g, 0, none⟩) lt.length q) lt) {i : Nat} (hi : i < lt.length) :
    w.cell? ⟨g, i * 13 + 3, none⟩ = some (.int .i64 lt[i].s.a.op) ∧ w.cell? ⟨g, i * 13 + 3 + 1, none⟩ = some (.int .i64 lt[i].s.a.n) ∧ w.cell? ⟨g, i * 13 + 3 + 2, none⟩ = some (.string lt[i].s.a.s) ∧ w.cell? ⟨g, i * 13 + 3 + 3, none⟩ = some (.slice lt[i].a1 lt[i].s.a.args.length lt[i].c1) := by
  obtain ⟨g', hg, _, hc⟩ := h.cell hi
  cases hg
  exact ⟨hc 3 (by decide), hc 4 (by decide), hc 5 (by decide), hc 6 (by decide)⟩
theorem set13 (a b : List Value) (c0 c1 c2 c3 c4 c5 c6 c7 c8 c9 c10 c11 c12 v0 v1 v2 v3 : Value) :
    ((((a ++ ([c0, c1, c2, c3, c4, c5, c6, c7, c8, c9, c10, c11, c12] ++ b)).set (a.length + 3) v0).set (a.length + 3 + 1) v1).set (a.length + 3 + 2) v2).set (a.length + 3 + 3) v3 = a ++ ([c0, c1, c2, v0, v1, v2, v3, c7, c8, c9, c10, c11, c12] ++ b) := by
  rw [List.set_append_right _ _ (by omega), List.set_append_right _ _ (by omega), List.set_append_right _ _ (by omega), List.set_append_right _ _ (by omega)]
  rw [show a.length + 3 - a.length = 3 by omega, show a.length + 3 + 1 - a.length = 4 by omega, show a.length + 3 + 2 - a.length = 5 by omega, show a.length + 3 + 3 - a.length = 6 by omega]
  rfl
def setA (y : SX) (x : ET) : SX := ⟨withA y.s x.e, x.a, x.c, y.a2, y.c2, y.a3, y.c3, y.a4, y.c4⟩
theorem cs_set {lt : List SX} {i : Nat} (hi : i < lt.length) (x : ET) :
    ((((kS.cs lt).set (i * 13 + 3) (.int .i64 x.e.op)).set (i * 13 + 3 + 1) (.int .i64 x.e.n)).set (i * 13 + 3 + 2) (.string x.e.s)).set (i * 13 + 3 + 3) (.slice x.a x.e.args.length x.c) = kS.cs (lt.set i (setA lt[i] x)) := by
  have hsplit : lt = lt.take i ++ ([lt[i]] ++ lt.drop (i + 1)) := by
    rw [List.singleton_append, ← List.drop_eq_getElem_cons hi, List.take_append_drop]
  have hset : lt.set i (setA lt[i] x) = lt.take i ++ ([setA lt[i] x] ++ lt.drop (i + 1)) := by
    rw [List.set_eq_take_append_cons_drop, if_pos hi]; rfl
  have hl : (kS.cs (lt.take i)).length = i * 13 := by
    rw [RowK.cs_len, List.length_take, Nat.min_eq_left (Nat.le_of_lt hi)]; rfl
  rw [hset]
  conv => lhs; rw [hsplit]
  rw [RowK.cs_app, RowK.cs_app, RowK.cs_app, RowK.cs_app, RowK.cs_one, RowK.cs_one]
  generalize lt[i] = y
  obtain ⟨⟨o, nm, mx, a, b, bd, el⟩, a1, c1, a2, c2, a3, c3, a4, c4⟩ := y
  have := set13 (kS.cs (lt.take i)) (kS.cs (lt.drop (i + 1))) (.int .i64 o) (.string nm) (.int .i64 mx) (.int .i64 a.op) (.int .i64 a.n) (.string a.s) (.slice a1 a.args.length c1) (.int .i64 b.op) (.int .i64 b.n) (.string b.s) (.slice a2 b.args.length c2) (.slice a3 bd.length c3) (.slice a4 el.length c4)
    (.int .i64 x.e.op) (.int .i64 x.e.n) (.string x.e.s) (.slice x.a x.e.args.length x.c)
  rw [hl] at this
  exact this
/-- an expression of a statement of the row set -/
theorem own_set {w : World} {b0 g q : Nat} {Z : Nat → Prop} {lt : List SX} (h : Own1 kS w b0 Z (.slice (some ⟨g, 0, none⟩) lt.length q) lt) {i : Nat} (hi : i < lt.length) (x : ET) (hx : KidsF (fun k => Z k ∨ g = k) w x.a x.e.args) :
    Own1 kS (put4 w g (i * 13 + 3) (.int .i64 x.e.op) (.int .i64 x.e.n) (.string x.e.s) (.slice x.a x.e.args.length x.c)) b0 Z (.slice (some ⟨g, 0, none⟩) lt.length q) (lt.set i (setA lt[i] x)) := by
  have hst : Stays (fun k => Z k ∨ g = k) (fun k => Z k ∨ (Value.slice (some ⟨g, 0, none⟩) lt.length q).ownBlock = some k) w (put4 w g (i * 13 + 3) (.int .i64 x.e.op) (.int .i64 x.e.n) (.string x.e.s) (.slice x.a x.e.args.length x.c)) :=
    ⟨fun k _ hz => A.put4_block _ _ _ _ _ _ _ _ (fun e => hz (Or.inr e.symm)), fun k hk => by
      rcases hk with hk | hk
      · exact Or.inl (Or.inl hk)
      · injection hk with hk; exact Or.inl (Or.inr hk)⟩
  have hold : ∀ y ∈ lt, kS.inn (fun k => Z k ∨ g = k) w y := fun y hy => kS.next (h.each y hy) ⟨fun _ _ _ => rfl, fun k hk => by
    rcases hk with hk | hk
    · exact Or.inl (Or.inl hk)
    · exact Or.inl (Or.inr (by rw [hk]; rfl))⟩
  refine ⟨?_, h.off, fun y hy => ?_⟩
  · have h4 := ((((h.row.stored (i * 13 + 3) (.int .i64 x.e.op)).1.stored (i * 13 + 3 + 1) (.int .i64 x.e.n)).1).stored (i * 13 + 3 + 2) (.string x.e.s)).1.stored (i * 13 + 3 + 3) (.slice x.a x.e.args.length x.c)
    rw [cs_set hi x] at h4
    rw [List.length_set]
    exact h4.1
  · rcases List.mem_or_eq_of_mem_set hy with hy | hy
    · exact kS.next (hold y hy) hst
    · subst hy
      obtain ⟨g1, g2, g3, g4⟩ := kS.next (hold lt[i] (List.getElem_mem hi)) hst
      generalize lt[i] = z at *
      obtain ⟨⟨o, nm, mx, a, b, bd, el⟩, a1, c1, a2, c2, a3, c3, a4, c4⟩ := z
      exact ⟨KidsF.next hx hst, g2, g3, g4⟩
theorem map_set {lt : List SX} {i : Nat} (hi : i < lt.length) (x : ET) : (lt.set i (setA lt[i] x)).map SX.s = (lt.map SX.s).set i (withA lt[i].s x.e) := by rw [List.map_set]; rfl
end Go.Proofs.YtgjnddjpinhkgaaDoor.N
namespace Go.Proofs.YtgjnddjpinhkgaaDoor.N
open Go.RowKit
open A (Ex St Pr exV exO exV_mk okE prV prO OkP PrIn Bx RowK Own1 Stays KidsF kE ET kS SX put4 BodiesF)
open L (below_2 below_box ret_bool ret_int)
def Ex0 : Prop := ∀ w, Calls Tryd.prog 24 #[] w fun e' w' => e' = .returned (.bool true) ∧ Below w.heap.size w w'
set_option maxHeartbeats 2000000 in
set_option maxRecDepth 100000 in
theorem lawReplaced_any (p : Pr) (a1 a2 : Option Addr) (c1 c2 : Nat) (hok : OkP p) (hc1 : p.params.length ≤ c1) (at0 k : Int) (hat : 0 ≤ at0 ∧ at0 < 256) (hk : 0 ≤ k ∧ k < 256) (w : World) (ht : Y.Tb w) (hK : PrIn w p a1 a2) :
    Calls Tryd.prog 9 #[prV p a1 c1 a2 c2, .int .u8 at0, .int .u8 k] w fun e' w' => e' = .returned (.bool true) ∧ Below w.heap.size w w' := by
  have hb := below_box w (prO p a1 c1 a2 c2)
  have hbx := A.Bx.new w #[.string p.name, .slice a1 p.params.length c1, .slice a2 p.body.length c2] 25
  have HC := Lib.hid (oCheck_any p a1 a2 c1 c2 hok hc1 _ (ht.below hb) (hK.below hb))
  have HE : Hid Ex0 := examples_any
  have HTb := Lib.hid (ht.below hb)
  have HK := Lib.hid (hK.below hb)
  have HB := Lib.hid hb
  have HX := Lib.hid hbx
  have HP : Hid (∃ r, checkN p = r) := ⟨_, rfl⟩
  obtain ⟨r, hr⟩ := HP.out
  rw [hr] at HC
  by_cases h0 : r = 0
  case neg =>
    have b1 : (r != 0) = true := bne_iff_ne.2 h0
    unfold prO at HC HK HB HX HTb
    unfold prV at HC
    unfold prV
    clear hok hc1 hK hb hbx ht h0 hr HP
    go_enter Tryd.func9, Tryd.ntmps9
    go_wp2_with fail
    refine HC.out.mono ?_; rintro e' w2 ⟨rfl, hb2⟩
    have HB2 := Lib.hid (below_2 HB.out hb2)
    clear hb2 HC
    go_wp2_with fail
    refine (HE.out _).mono ?_; rintro e' w4 ⟨rfl, hb4⟩
    have HB4 := Lib.hid (below_2 HB2.out hb4)
    clear hb4
    go_wp2_with fail
    go_ret
    exact ⟨rfl, HB4.out⟩
  subst h0
  by_cases hbd : p.body.length = 0
  · have b2 : (p.body.length == 0) = true := beq_iff_eq.2 hbd
    unfold prO at HC HK HB HX HTb
    unfold prV at HC
    unfold prV
    rw [hbd] at HC HX HK HTb HB ⊢
    clear hok hc1 hK hb hbx ht hr HP hbd
    go_enter Tryd.func9, Tryd.ntmps9
    go_wp2_with fail
    refine HC.out.mono ?_; rintro e' w2 ⟨rfl, hb2⟩
    have HB2 := Lib.hid (below_2 HB.out hb2)
    have x0 := (HX.out.below hb2).cell 0
    have x1 := (HX.out.below hb2).cell 1
    have x2 := (HX.out.below hb2).cell 2
    simp only [List.getElem?_toArray, List.getElem?_cons_zero, List.getElem?_cons_succ] at x0 x1 x2
    clear hb2 HC
    go_wp2_with fail
    refine (HE.out _).mono ?_; rintro e' w4 ⟨rfl, hb4⟩
    have HB4 := Lib.hid (below_2 HB2.out hb4)
    clear hb4
    go_wp2_with fail
    go_ret
    exact ⟨rfl, HB4.out⟩
  -- the copy
  have hchk : (Y.chk p).2 = 0 := by
    unfold checkN at hr
    by_cases h0 : (Y.chk p).2 = 0
    · exact h0
    · rw [if_pos h0] at hr; exact hr
  have hv : A.valE p = 0 := chk_val hchk
  have hcB := val_cB hv
  have hbl : p.body.length ≤ 1200 := by have := A.cB_len p.body; omega
  have hpos : 0 < p.body.length := Nat.pos_of_ne_zero hbd
  have HS : Hid (∀ j (h : j < p.body.length), A.cE (p.body[j]).a ≤ 1000000) := fun j h => by
    have h1 := A.cB_get h
    have h2 := A.cS_parts p.body[j]
    omega
  have HV : Hid (∀ w', PrIn w' p a1 a2 → Calls Tryd.prog 28 #[prV p a1 c1 a2 c2] w' fun e' w'' => e' = .returned (.int .i64 0) ∧ Below w'.heap.size w' w'') := fun w' h => by
    have := A.UB.ovalidate_any p a1 a2 c1 c2 hok hc1 w' h
    rw [hv] at this
    exact this
  have HSw : Hid (∀ (i : Nat) (hi : i < p.body.length) (k : Int), 0 ≤ k → (rp p.body[i].a k).2 < 0 → checkN (swp p i p.body[i] (rp p.body[i].a k).1) = 12 ∧ (firstN (swp p i p.body[i] (rp p.body[i].a k).1)).1 = 25 ∧ (firstN (swp p i p.body[i] (rp p.body[i].a k).1)).2.2 = true) :=
    fun i hi k hk h => swp_main hi hk hr h
  have HOK := Lib.hid hok
  have HC1 := Lib.hid hc1
  have b2 : (p.body.length == 0) = false := beq_eq_false_iff_ne.2 hbd
  have HBL := Lib.hid hbl
  have HPos := Lib.hid hpos
  obtain ⟨m, hm⟩ : ∃ m, p.body.length = m := ⟨_, rfl⟩
  have HM := Lib.hid hm
  unfold prO at HC HK HB HX HTb
  unfold prV at HC
  unfold prV
  rw [hm] at hbl hpos b2 HC HX HK HTb HB ⊢
  have b3 : ¬ m = 0 := by omega
  clear hok hc1 hK hb hbx ht hr HP hbd hchk hv hcB hm
  go_enter Tryd.func9, Tryd.ntmps9
  go_wp2_with fail
  refine HC.out.mono ?_; rintro e' w2 ⟨rfl, hb2⟩
  have HB2' := Lib.hid hb2
  have HB2 := Lib.hid (below_2 HB.out hb2)
  have x0 := (HX.out.below hb2).cell 0
  have x1 := (HX.out.below hb2).cell 1
  have x2 := (HX.out.below hb2).cell 2
  simp only [List.getElem?_toArray, List.getElem?_cons_zero, List.getElem?_cons_succ] at x0 x1 x2
  have hq := A.Bx.new w2 #[.string p.name, .slice a1 p.params.length c1, .slice a2 m c2] 25
  have hbq := below_box w2 (.cells #[.string p.name, .slice a1 p.params.length c1, .slice a2 m c2] 25)
  have y2 := ((HX.out.below hb2).below hbq).cell 2
  simp only [List.getElem?_toArray, List.getElem?_cons_zero, List.getElem?_cons_succ] at y2
  have HQ := Lib.hid hq
  have HBQ := Lib.hid hbq
  have hz1 : (w.alloc (.cells #[.string p.name, .slice a1 p.params.length c1, .slice a2 m c2] 25)).heap.size = w.heap.size + 1 := by simp
  have hz2 := hb2.size
  have HZ2 : Hid (w.heap.size + 1 ≤ w2.heap.size) := by show _ ≤ _; omega
  have HK2 : Hid (BodiesF (fun k => k = w2.heap.size) (w2.alloc (.cells #[.string p.name, .slice a1 p.params.length c1, .slice a2 m c2] 25)) a2 p.body) :=
    BodiesF.next (bodiesF_of HK.out.body) (Stays.below (hb2.trans (hbq.mono hz2)) fun k hk => Or.inr (by rw [hk]; exact hz2))
  clear hb2 HC hq hbq hz1 hz2
  have hi0 : 0 ≤ at0 % (m : Int) ∧ at0 % (m : Int) < m := ⟨Int.emod_nonneg _ (by omega), Int.emod_lt_of_pos _ (by omega)⟩
  go_wp2_with (at_builtin; refine wpList_append_sts rfl (.const (.slice none 0 0)) (.tmp 26) rfl (fun k => k = w2.heap.size) (fun k hk => by have hk' : k = w2.heap.size := hk; rw [hk']; simp) p.body rfl a2 m c2 HM.out.symm rfl HK2.out HPos.out (Nat.le_trans HBL.out (by decide)) ?_; intro q4 w4 lt e4 hown4 hb4; have hq4 := HQ.out.below hb4; have y0 := hq4.cell 0; have y1 := hq4.cell 1; have y3 := hq4.cell 2; have f2 := hq4.free 2; simp only [List.getElem?_toArray, List.getElem?_cons_zero, List.getElem?_cons_succ] at y0 y1 y3; have hlen : lt.length = p.body.length := (by rw [← e4, List.length_map]); have hI : (at0 % (m : Int)).toNat < lt.length := (by rw [hlen, HM.out]; omega); have hrow : Own1 kS w4 (w2.heap.size + 1) (fun k => k = w2.heap.size) (.slice (some ⟨w2.heap.size + 1, 0, none⟩) lt.length q4) lt := (by simpa using hown4); have ⟨x, hx, g3, g4, g5, g6⟩ : ∃ x : SX, x = lt[(at0 % (m : Int)).toNat] ∧ w4.cell? ⟨w2.heap.size + 1, (at0 % (m : Int)).toNat * 13 + 3, none⟩ = some (.int .i64 x.s.a.op) ∧ w4.cell? ⟨w2.heap.size + 1, (at0 % (m : Int)).toNat * 13 + 3 + 1, none⟩ = some (.int .i64 x.s.a.n) ∧ w4.cell? ⟨w2.heap.size + 1, (at0 % (m : Int)).toNat * 13 + 3 + 2, none⟩ = some (.string x.s.a.s) ∧ w4.cell? ⟨w2.heap.size + 1, (at0 % (m : Int)).toNat * 13 + 3 + 3, none⟩ = some (.slice x.a1 x.s.a.args.length x.c1) := ⟨_, rfl, row_open hrow hI⟩; have HXI : Hid (∃ h : (at0 % (m : Int)).toNat < lt.length, x = lt[(at0 % (m : Int)).toNat]) := ⟨hI, hx⟩; have HQ4 := Lib.hid hq4; have HB4 := Lib.hid hb4; have HO4 := Lib.hid hrow; have HE4 := Lib.hid e4; have HLn := Lib.hid hlen; clear hx hq4 hb4 hown4 e4 hlen hrow; clear hI)
  have hI0 : (at0 % (m : Int)).toNat < lt.length := HXI.out.1
  have hxe : x = lt[(at0 % (m : Int)).toNat] := HXI.out.2
  have hxs : p.body[(at0 % (m : Int)).toNat]? = some x.s := by rw [← HE4.out, List.getElem?_map, List.getElem?_eq_getElem hI0, hxe]; rfl
  obtain ⟨hJ, hJe⟩ := List.getElem?_eq_some_iff.1 hxs
  have hcE : A.cE x.s.a ≤ 1000000 := by rw [← hJe]; exact HS.out _ hJ
  have hokx : okE x.s.a := by rw [← hJe]; exact (A.okS_open (HOK.out.body.get _ hJ)).a
  have hk4 : 0 ≤ k % 4 ∧ k % 4 < 4 := ⟨Int.emod_nonneg _ (by decide), Int.emod_lt_of_pos _ (by decide)⟩
  have hq5 := HQ4.out.set 2 (u := (.slice (some ⟨w2.heap.size + 1, 0, none⟩) m q4))
  have hO5 : Own1 kS (w4.setCell ⟨w2.heap.size, 2, none⟩ (.slice (some ⟨w2.heap.size + 1, 0, none⟩) m q4)) (w2.heap.size + 1) (fun k => k = w2.heap.size) (.slice (some ⟨w2.heap.size + 1, 0, none⟩) lt.length q4) lt :=
    HO4.out.next ⟨fun k _ hz => Below.heap_setCell _ _ _ _ (fun e => hz e), fun k hk => Or.inl hk⟩
  have hB5 : Below w2.heap.size w2 (w4.setCell ⟨w2.heap.size, 2, none⟩ (.slice (some ⟨w2.heap.size + 1, 0, none⟩) m q4)) := (HBQ.out.trans (HB4.out.mono (by simp))).setCell (Nat.le_refl _) _
  have hlt4 : w2.heap.size + 1 < w4.heap.size := (HO4.out.lt _ rfl).2
  have hz5 : (w4.setCell ⟨w2.heap.size, 2, none⟩ (.slice (some ⟨w2.heap.size + 1, 0, none⟩) m q4)).heap.size = w4.heap.size := by simp
  have hkx := hO5.each x (by rw [hxe]; exact List.getElem_mem hI0)
  have hkA : KidsF (fun g => g = w2.heap.size ∨ w2.heap.size + 1 = g) (w4.setCell ⟨w2.heap.size, 2, none⟩ (.slice (some ⟨w2.heap.size + 1, 0, none⟩) m q4)) x.a1 x.s.a.args := KidsF.next hkx.1 ⟨fun _ _ _ => rfl, fun g hg => by
    rcases hg with hg | hg
    · exact Or.inl (Or.inl hg)
    · exact Or.inl (Or.inr (by rw [hg]; rfl))⟩
  have hcr := lreplaced_any x.s.a _ x.a1 x.c1 (k % 4) (w4.setCell ⟨w2.heap.size, 2, none⟩ (.slice (some ⟨w2.heap.size + 1, 0, none⟩) m q4)) hokx hcE hk4.1 (by omega) (fun j hj => by rw [hz5]; rcases hj with hj | hj <;> omega) hkA
  have hsr := HSw.out (at0 % (m : Int)).toNat hJ (k % 4) hk4.1
  have hokq := swp_ok hJ HOK.out (k % 4)
  rw [hJe] at hsr hokq
  have hql : (swp p (at0 % (m : Int)).toNat x.s (rp x.s.a (k % 4)).1).body.length = m := by show (p.body.set _ _).length = m; rw [List.length_set, HM.out]
  have hqb : (swp p (at0 % (m : Int)).toNat x.s (rp x.s.a (k % 4)).1).body = p.body.set (at0 % (m : Int)).toNat (withA x.s (rp x.s.a (k % 4)).1) := rfl
  have hF := fun a2 c2 w' h => oFirst_all (swp p (at0 % (m : Int)).toNat x.s (rp x.s.a (k % 4)).1) a1 a2 c1 c2 hokq HC1.out w' h
  have hC := fun a2 c2 w' t h => oCheck_any (swp p (at0 % (m : Int)).toNat x.s (rp x.s.a (k % 4)).1) a1 a2 c1 c2 hokq HC1.out w' t h
  unfold prV at hF hC
  rw [hql] at hF hC
  have HCR := Lib.hid hcr
  have HSR := Lib.hid hsr
  have HF := Lib.hid hF
  have HC := Lib.hid hC
  have HQB := Lib.hid hqb
  have HQ5 := Lib.hid hq5
  have HO5 := Lib.hid hO5
  have HB5 := Lib.hid hB5
  have HZ5 := Lib.hid hz5
  have HL4 := Lib.hid hlt4
  have HPM : Hid ((swp p (at0 % (m : Int)).toNat x.s (rp x.s.a (k % 4)).1).params = p.params ∧ (swp p (at0 % (m : Int)).toNat x.s (rp x.s.a (k % 4)).1).name = p.name) := ⟨rfl, rfl⟩
  clear hI0 hxe hxs hJ hJe hcE hokx hk4 hq5 hO5 hB5 hlt4 hz5 hkx hkA hcr hsr hokq hql hqb hF hC
  unfold exV at HCR
  refine HCR.out.mono ?_; rintro e' w6 ⟨p6, q6, rfl, hk6, hb6⟩
  have HPM1 := HPM.out.1
  have HPM2 := HPM.out.2
  generalize hQ : swp p (at0 % (m : Int)).toNat x.s (rp x.s.a (k % 4)).1 = Q at HSR HF HC HQB HPM1 HPM2
  clear hQ HPM HCR
  generalize rp x.s.a (k % 4) = r at *
  obtain ⟨⟨ro, rn, rs, rl⟩, rest⟩ := r
  simp only [exV_mk]
  rw [HPM2, HPM1] at HF HC
  have HQP : Hid (Q.params = p.params) := HPM1
  have HK6 : Hid (KidsF (fun g => g = w2.heap.size ∨ w2.heap.size + 1 = g) w6 p6 rl) := hk6
  have HB6 := Lib.hid hb6
  have hbe := below_box w6 (.cells #[.int .i64 ro, .int .i64 rn, .string rs, .slice p6 rl.length q6] 52)
  have HXE := Lib.hid (Bx.new w6 #[.int .i64 ro, .int .i64 rn, .string rs, .slice p6 rl.length q6] 52)
  have hB56 := hb6.trans (hbe.mono hb6.size)
  have hB26 := HB5.out.trans (hB56.mono (by rw [HZ5.out]; have := HL4.out; omega))
  have hB16 := HB2'.out.trans (hB26.mono HB2'.out.size)
  have HB7 := Lib.hid hB56
  have HB17 := Lib.hid hB16
  have HB07 := Lib.hid (below_2 HB.out hB16)
  have v0 := (HX.out.below hB16).cell 0
  have v1 := (HX.out.below hB16).cell 1
  have v2 := (HX.out.below hB16).cell 2
  simp only [List.getElem?_toArray, List.getElem?_cons_zero, List.getElem?_cons_succ] at v0 v1 v2
  have HV7 := HV.out (w6.alloc (.cells #[.int .i64 ro, .int .i64 rn, .string rs, .slice p6 rl.length q6] 52)) (HK.out.below hB16)
  unfold prV at HV7
  rw [HM.out] at HV7
  have HV7 := Lib.hid HV7
  clear hk6 hb6 hbe hB56 hB26 hB16 HPM1 HPM2 y0 y1 y2 y3 x0 x1 x2 g3 g4 g5 g6 f2
  by_cases hre : rest < 0
  case neg =>
    have b4 : decide (rest ≥ 0) = true := decide_eq_true (by omega)
    have hre' : 0 ≤ rest := by omega
    clear v0 v1 v2 hre
    go_wp2_with fail
    refine (HE.out _).mono ?_; rintro e' w8 ⟨rfl, hb8⟩
    have HB8 := Lib.hid (below_2 HB07.out hb8)
    clear hb8
    go_wp2_with fail
    go_ret
    exact ⟨rfl, HB8.out⟩
  have b4 : decide (rest ≥ 0) = false := decide_eq_false (by omega)
  have hre' : ¬ 0 ≤ rest := by omega
  obtain ⟨t1, t2, t3⟩ := HSR.out hre
  rw [t2, t3] at HF
  rw [t1] at HC
  clear t1 t2 t3 HSR
  go_wp2_with fail
  refine HV7.out.mono ?_; rintro e' w8 ⟨rfl, hb8⟩
  have hb68 := HB7.out.trans (hb8.mono HB7.out.size)
  have hb18 := HB17.out.trans (hb8.mono HB17.out.size)
  have hO8 := HO5.out.below hb68
  have hI0 := HXI.out.1
  have hxe : x = lt[(at0 % (m : Int)).toNat] := HXI.out.2
  have hq8 := HQ5.out.below hb68
  have z0 := hq8.cell 0
  have z1 := hq8.cell 1
  have z2 := hq8.cell 2
  simp at z0 z1 z2
  have he8 := HXE.out.below hb8
  have e0 := he8.cell 0
  have e1 := he8.cell 1
  have e2 := he8.cell 2
  have e3 := he8.cell 3
  simp only [List.getElem?_toArray, List.getElem?_cons_zero, List.getElem?_cons_succ] at e0 e1 e2 e3
  obtain ⟨g3, g4, g5, g6⟩ := row_open hO8 hI0
  rw [← hxe] at g3 g4 g5 g6
  have f3 := hO8.row.frozenAt ((at0 % (m : Int)).toNat * 13 + 3)
  have f4 := hO8.row.frozenAt ((at0 % (m : Int)).toNat * 13 + 3 + 1)
  have f5 := hO8.row.frozenAt ((at0 % (m : Int)).toNat * 13 + 3 + 2)
  have f6 := hO8.row.frozenAt ((at0 % (m : Int)).toNat * 13 + 3 + 3)
  have hk8 : KidsF (fun g => g = w2.heap.size ∨ w2.heap.size + 1 = g) w8 p6 rl := KidsF.next HK6.out (Stays.below ((below_box w6 (.cells #[.int .i64 ro, .int .i64 rn, .string rs, .slice p6 rl.length q6] 52)).trans (hb8.mono (below_box w6 (.cells #[.int .i64 ro, .int .i64 rn, .string rs, .slice p6 rl.length q6] 52)).size)) fun g hg => Or.inl hg)
  have hO9 := own_set hO8 hI0 (⟨.mk ro rn rs rl, p6, q6⟩ : ET) hk8
  have hlz : w2.heap.size + 1 < w8.heap.size := by have h1 := hb68.size; have h2 := HZ5.out; have h3 := HL4.out; omega
  have hb19 : Below (w.alloc (.cells #[.string p.name, .slice a1 p.params.length c1, .slice a2 m c2] 25)).heap.size (w.alloc (.cells #[.string p.name, .slice a1 p.params.length c1, .slice a2 m c2] 25)) (put4 w8 (w2.heap.size + 1) ((at0 % (m : Int)).toNat * 13 + 3) (.int .i64 ro) (.int .i64 rn) (.string rs) (.slice p6 rl.length q6)) := by
    have hz1 : (w.alloc (.cells #[.string p.name, .slice a1 p.params.length c1, .slice a2 m c2] 25)).heap.size = w.heap.size + 1 := by simp
    have hz2 := HZ2.out
    have hle : (w.alloc (.cells #[.string p.name, .slice a1 p.params.length c1, .slice a2 m c2] 25)).heap.size ≤ w2.heap.size + 1 := by omega
    unfold put4
    exact (((hb18.setCell (p := ⟨w2.heap.size + 1, _, none⟩) hle _).setCell (p := ⟨w2.heap.size + 1, _, none⟩) hle _).setCell (p := ⟨w2.heap.size + 1, _, none⟩) hle _).setCell (p := ⟨w2.heap.size + 1, _, none⟩) hle _
  have hpr : PrIn (put4 w8 (w2.heap.size + 1) ((at0 % (m : Int)).toNat * 13 + 3) (.int .i64 ro) (.int .i64 rn) (.string rs) (.slice p6 rl.length q6)) Q a1 (some ⟨w2.heap.size + 1, 0, none⟩) := by
    refine ⟨?_, ?_⟩
    · rw [HQP.out]; exact HK.out.params.below hb19
    · rw [HQB.out]
      have hl9 : (lt.set (at0 % (m : Int)).toNat (setA lt[(at0 % (m : Int)).toNat] ⟨.mk ro rn rs rl, p6, q6⟩)).length = lt.length := List.length_set
      have hO9' : Own1 kS (put4 w8 (w2.heap.size + 1) ((at0 % (m : Int)).toNat * 13 + 3) (.int .i64 ro) (.int .i64 rn) (.string rs) (.slice p6 rl.length q6)) (w2.heap.size + 1) (fun k => k = w2.heap.size) (.slice (some ⟨w2.heap.size + 1, 0, none⟩) (lt.set (at0 % (m : Int)).toNat (setA lt[(at0 % (m : Int)).toNat] ⟨.mk ro rn rs rl, p6, q6⟩)).length q4) (lt.set (at0 % (m : Int)).toNat (setA lt[(at0 % (m : Int)).toNat] ⟨.mk ro rn rs rl, p6, q6⟩)) := by rw [hl9]; exact hO9
      have hbd := A.BodiesF.now (A.Own1.bodies hO9')
      rw [map_set hI0, HE4.out, ← hxe] at hbd
      exact hbd
  have HF9 := Lib.hid (HF.out _ q4 _ hpr)
  have HPR := Lib.hid hpr
  have HB19 := Lib.hid hb19
  have HT9 := Lib.hid (HTb.out.below hb19)
  have HB9 := Lib.hid (below_2 HB.out hb19)
  have hq9 : Bx (put4 w8 (w2.heap.size + 1) ((at0 % (m : Int)).toNat * 13 + 3) (.int .i64 ro) (.int .i64 rn) (.string rs) (.slice p6 rl.length q6)) w2.heap.size #[.string p.name, .slice a1 p.params.length c1, .slice (some ⟨w2.heap.size + 1, 0, none⟩) m q4] 25 := hq8.keep (A.put4_block _ _ _ _ _ _ _ _ (by omega))
  have HQ9 := Lib.hid hq9
  have HLZ : Hid (w2.heap.size < (put4 w8 (w2.heap.size + 1) ((at0 % (m : Int)).toNat * 13 + 3) (.int .i64 ro) (.int .i64 rn) (.string rs) (.slice p6 rl.length q6)).heap.size) := by show _ < _; rw [A.put4_size]; omega
  clear hb8 hb68 hb18 hO8 hI0 hxe hq8 he8 hk8 hO9 hb19 hpr hq9 HV7 hlz HF v0 v1 v2
  unfold put4 at HF9 HPR HB19 HT9 HB9 HQ9 HLZ
  go_wp2_with fail
  refine HF9.out.mono ?_; rintro e' w10 ⟨rfl, hb10⟩
  have HC10 := Lib.hid (HC.out _ q4 _ (HT9.out.below hb10) (HPR.out.below hb10))
  have HB10 := Lib.hid (below_2 HB9.out hb10)
  have y0 := (HQ9.out.below hb10).cell 0
  have y1 := (HQ9.out.below hb10).cell 1
  have y2 := (HQ9.out.below hb10).cell 2
  simp only [List.getElem?_toArray, List.getElem?_cons_zero, List.getElem?_cons_succ] at y0 y1 y2
  clear hb10 HF9 z0 z1 z2 e0 e1 e2 e3 g3 g4 g5 g6 f3 f4 f5 f6
  go_wp2_with fail
  refine HC10.out.mono ?_; rintro e' w11 ⟨rfl, hb11⟩
  have HB11 := Lib.hid (below_2 HB10.out hb11)
  clear hb11 HC10 y0 y1 y2
  go_wp2_with fail
  refine (HE.out _).mono ?_; rintro e' w12 ⟨rfl, hb12⟩
  have HB12 := Lib.hid (below_2 HB11.out hb12)
  clear hb12
  go_wp2_with fail
  go_ret
  exact ⟨rfl, HB12.out⟩
end Go.Proofs.YtgjnddjpinhkgaaDoor.N
