/-
  Plain mathematics of layer 11, without the program: the program's check and the specification's agree on well-formed statements whose names are declared once; what holds behind it.
-/
import Derived.Test.YtnelpgeiioflmaaGreatDoorSYCheck
namespace Go.Proofs.YtnelpgeiioflmaaGreatDoor.Y
open A (Ex St Pm Pr V arity vE vEs nodeE absent Good stE preE preEs preR preS preB walk names valE uA uB uN uM uD uE badS)

structure Inv (c : Cx) (vs : List Pm) (ls D : List ByteArray) : Prop where
  vis : c.vis = look vs
  loop : ∀ x ∈ vs.map Pm.name, (c.loops x = true ↔ x ∈ ls)
  sub : ∀ x ∈ ls, x ∈ vs.map Pm.name
  nd : (vs.map Pm.name ++ D).Nodup
  free : ∀ x ∈ D, c.loops x = false
  rng : ∀ p ∈ vs, 1 ≤ p.ty ∧ p.ty ≤ 3
structure Aft (c c' : Cx) (vs ds : List Pm) (D : List ByteArray) (w : List V) : Prop where
  loops : ∀ x, c'.loops x = true → c.loops x = true ∨ x ∈ D
  keeps : ∀ x, c.loops x = true → c'.loops x = true
  decl : c'.decl = c.decl ++ ds
  names : ds.map Pm.name = D
  ok : ∀ g, Has g (vs ++ ds) → ∀ v ∈ w, okV g v
  vars : ∀ out, Has (look out) vs → (out.map Pm.name ++ D).Nodup → vaF out w = out ++ ds
def nxt (vs : List Pm) (s : St) : List Pm := if s.op = 1 then vs ++ [⟨s.name, (tyE (look vs) s.a).1⟩] else vs

theorem vaF_app : ∀ (w1 w2 : List V) (out : List Pm), vaF out (w1 ++ w2) = vaF (vaF out w1) w2
  | [], _, _ => by rw [List.nil_append, vaF]
  | .st s d :: r, w2, out => by rw [List.cons_append, vaF, vaF, vaF_app r]
  | .ex e b :: r, w2, out => by rw [List.cons_append, vaF, vaF, vaF_app r]
theorem vaF_ex : ∀ (w : List V) (out : List Pm), (∀ v ∈ w, ∃ e r, v = V.ex e r) → vaF out w = out
  | [], _, _ => by rw [vaF]
  | v :: w, out, h => by
    obtain ⟨e, r, rfl⟩ := h v List.mem_cons_self
    rw [vaF]
    exact vaF_ex w out fun v hv => h v (List.mem_cons_of_mem _ hv)
theorem okV_ex (g : Env) {w : List V} (h : ∀ v ∈ w, ∃ e r, v = V.ex e r) : ∀ v ∈ w, okV g v := fun v hv => by
  obtain ⟨e, r, rfl⟩ := h v hv
  trivial
theorem Has.left {g : Env} {a b : List Pm} (h : Has g (a ++ b)) : Has g a := fun p hp => h p (List.mem_append.2 (Or.inl hp))
theorem Has.right {g : Env} {a b : List Pm} (h : Has g (a ++ b)) : Has g b := fun p hp => h p (List.mem_append.2 (Or.inr hp))
theorem Has.both {g : Env} {a b : List Pm} (h : Has g a) (k : Has g b) : Has g (a ++ b) := fun p hp => by
  rcases List.mem_append.1 hp with x | x
  · exact h p x
  · exact k p x
theorem nd_left {α : Type} {a b c : List α} (h : (a ++ (b ++ c)).Nodup) : (a ++ b).Nodup := by
  rw [← List.append_assoc] at h; exact (List.nodup_append.1 h).1
theorem nd_skip {α : Type} {a b c : List α} (h : (a ++ (b ++ c)).Nodup) : (a ++ c).Nodup := by
  rw [List.nodup_append] at h ⊢
  obtain ⟨h1, h2, h3⟩ := h
  exact ⟨h1, (List.nodup_append.1 h2).2.1, fun x hx y hy => h3 x hx y (List.mem_append.2 (Or.inr hy))⟩
theorem nd_apart {α : Type} {a b : List α} (h : (a ++ b).Nodup) {x : α} (hx : x ∈ b) : x ∉ a := fun ha => (List.nodup_append.1 h).2.2 x ha x hx rfl
theorem nd_mid {α : Type} {a b c : List α} (h : (a ++ (b ++ c)).Nodup) {x : α} (hx : x ∈ c) : x ∉ b := nd_apart (List.nodup_append.1 h).2.1 hx

theorem knV {vs : List Pm} {s : ByteArray} (h : (tyV (look vs) s).2 = 0) : s ∈ vs.map Pm.name := by
  cases hl : look vs s with
  | none => rw [tyV_none hl] at h; cases h
  | some t =>
    obtain ⟨p, hp, rfl, -⟩ := look_some hl
    exact List.mem_map.2 ⟨p, hp, rfl⟩
mutual
theorem kn_ty {vs : List Pm} : ∀ (e : Ex) {d : Nat}, vE e d = 0 → (tyE (look vs) e).2 = 0 → knE (vs.map Pm.name) e = true
  | .mk o n s l, d, h, h0 => by
    obtain ⟨h1, h2⟩ := vE_open h
    rw [knE]
    by_cases ho : o = 3
    · obtain ⟨-, h3, -⟩ := node_open h1
      subst ho
      have hl : l = [] := len0 (h3.trans rfl)
      subst hl
      rw [tyE, if_pos rfl] at h0
      rw [knEs, isIn_iff.2 (knV h0)]; rfl
    · rw [ty_node _ ho] at h0
      by_cases h4 : (tyEs (look vs) l).2 = 0
      · rw [decide_eq_false ho, kns_ty l h2 h4]; rfl
      · rw [if_pos h4] at h0; exact absurd h0 h4
theorem kns_ty {vs : List Pm} : ∀ (l : List Ex) {d : Nat}, vEs l d = 0 → (tyEs (look vs) l).2 = 0 → knEs (vs.map Pm.name) l = true
  | [], d, _, _ => by rw [knEs]
  | e :: r, d, h, h0 => by
    obtain ⟨h5, h6⟩ := vEs_cons h
    rw [knEs]
    by_cases h7 : (tyE (look vs) e).2 = 0
    · rw [tys_cons _ h7] at h0
      rw [kn_ty e h5 h7, kns_ty r h6 h0]; rfl
    · rw [tys_cons_bad _ h7] at h0; exact absurd h0 h7
end
theorem kn_absent (l : List ByteArray) {e : Ex} (h : absent e = true) : knE l e = true := by
  obtain ⟨o, n, s, as⟩ := e
  unfold absent at h
  simp only [Bool.and_eq_true, decide_eq_true_iff, List.isEmpty_iff] at h
  obtain ⟨⟨⟨h1, -⟩, -⟩, h4⟩ := h
  have h1' : o = 0 := h1
  have h4' : as = [] := h4
  subst h1'; subst h4'
  rw [knE, knEs]; rfl
theorem opsR1 {vs : List Pm} {o : Int} (h : o ≠ 8 ∧ o ≠ 3 ∧ o ≠ 6) {a b : Ex} (hv : vE a 1 = 0) : opsR vs o a b = ((tyE (look vs) a).1, 0, (tyE (look vs) a).2) := by
  unfold opsR
  rw [if_neg h.1, of_valid _ hv, if_pos (Or.inr h.2)]
theorem opsR2 {vs : List Pm} {o : Int} (h : o = 3 ∨ o = 6) {a b : Ex} (hv : vE a 1 = 0) (hb : vE b 1 = 0) :
    opsR vs o a b = if (tyE (look vs) a).2 ≠ 0 then ((tyE (look vs) a).1, 0, (tyE (look vs) a).2) else ((tyE (look vs) a).1, (tyE (look vs) b).1, (tyE (look vs) b).2) := by
  unfold opsR
  rw [if_neg (by omega), of_valid _ hv, of_valid _ hb]
  by_cases h0 : (tyE (look vs) a).2 = 0
  · rw [if_neg (by omega), if_neg (fun x => x h0)]
  · rw [if_pos (Or.inl h0), if_pos h0]
theorem aft_none {c : Cx} {vs : List Pm} {s : St} {d : Nat} {w : List V} (hw : ∀ v ∈ w, ∃ e r, v = V.ex e r) (ho : s.op ≠ 1 ∧ s.op ≠ 6) (hok : ∀ g, Has g vs → OkSt g s) :
    Aft c c vs [] [] (.st s d :: w) := by
  refine ⟨fun x h => Or.inl h, fun x h => h, by rw [List.append_nil], rfl, fun g hg v hv => ?_, fun out _ _ => ?_⟩
  · rcases List.mem_cons.1 hv with rfl | h
    · exact hok g hg.left
    · exact okV_ex g hw v h
  · rw [vaF, vaF_ex _ _ hw, List.append_nil]
    unfold vaS
    rw [if_neg ho.1, if_neg ho.2]
theorem ex_two (a b : Ex) : ∀ v ∈ preR a ++ preR b, ∃ e r, v = V.ex e r := fun v hv => by
  rcases List.mem_append.1 hv with h | h
  · exact preR_ex a v h
  · exact preR_ex b v h
theorem fit_iff {b : Bool} : fitE b = 0 ↔ b = true := by cases b <;> simp [fitE]
theorem Inv.body {c : Cx} {vs : List Pm} {ls D E : List ByteArray} (h : Inv c vs ls (D ++ E)) : Inv c vs ls D :=
  ⟨h.vis, h.loop, h.sub, nd_left h.nd, fun x hx => h.free x (List.mem_append.2 (Or.inl hx)), h.rng⟩
theorem Inv.after {c c' : Cx} {vs ds : List Pm} {ls D E : List ByteArray} {w : List V} (h : Inv c vs ls (D ++ E)) (ha : Aft c c' vs ds D w) (hv : c'.vis = look vs) : Inv c' vs ls E :=
  ⟨hv, fun x hx => ⟨fun hl => (h.loop x hx).1 ((ha.loops x hl).resolve_right fun hd => nd_apart (nd_left h.nd) hd hx), fun hl => ha.keeps x ((h.loop x hx).2 hl)⟩, h.sub, nd_skip h.nd,
    fun x hx => by
      cases hc : c'.loops x with
      | false => rfl
      | true =>
        rcases ha.loops x hc with h1 | h1
        · rw [h.free x (List.mem_append.2 (Or.inr hx))] at h1; cases h1
        · exact absurd h1 (nd_mid h.nd hx), h.rng⟩
theorem Inv.enter {c : Cx} {vs : List Pm} {ls D : List ByteArray} {x : ByteArray} (h : Inv c vs ls ([x] ++ D)) : Inv (c.loop x) (vs ++ [⟨x, 1⟩]) (ls ++ [x]) D := by
  have hx : x ∉ vs.map Pm.name := nd_apart h.nd (by simp)
  refine ⟨?_, fun y hy => ?_, fun y hy => ?_, ?_, fun y hy => ?_, fun p hp => ?_⟩
  · show put c.vis x 1 = _
    rw [h.vis, put_look hx]
  · show (decide (x = y) || c.loops y) = true ↔ _
    rw [List.map_append] at hy
    rw [Bool.or_eq_true, decide_eq_true_iff, List.mem_append]
    rcases List.mem_append.1 hy with h1 | h1
    · rw [h.loop y h1]
      constructor
      · rintro (h2 | h2)
        · subst h2; exact absurd h1 hx
        · exact Or.inl h2
      · rintro (h2 | h2)
        · exact Or.inr h2
        · exact Or.inl (List.mem_singleton.1 h2).symm
    · have : y = x := by simpa using h1
      subst this
      exact ⟨fun _ => Or.inr (by simp), fun _ => Or.inl rfl⟩
  · rw [List.map_append]
    rcases List.mem_append.1 hy with h1 | h1
    · exact List.mem_append.2 (Or.inl (h.sub y h1))
    · exact List.mem_append.2 (Or.inr (by simpa using h1))
  · have := h.nd
    rw [← List.append_assoc] at this
    rw [List.map_append]; exact this
  · show (decide (x = y) || c.loops y) = false
    rw [h.free y (List.mem_append.2 (Or.inr hy)), Bool.or_false, decide_eq_false_iff_not]
    rintro rfl
    exact nd_mid h.nd hy (by simp)
  · rcases List.mem_append.1 hp with h1 | h1
    · exact h.rng p h1
    · rw [List.mem_singleton.1 h1]; exact ⟨by show (1 : Int) ≤ 1; decide, by show (1 : Int) ≤ 3; decide⟩
theorem lst_is {r : Cx × Int} {vs es : List Pm} {l : List St} (h0 : r.2 = 0) (hv : r.1.vis = look (vs ++ es)) (he : es.map Pm.name = lets l) (hn : (vs.map Pm.name ++ dB l).Nodup) :
    lst r l = (⟨look vs, r.1.loops, r.1.decl⟩, 0) := by
  unfold lst
  rw [if_neg (fun x => x h0), hv, dels_look he fun x hx => nd_apart hn (lets_dB l x hx)]
theorem lst_bad {r : Cx × Int} {l : List St} (h0 : r.2 ≠ 0) : lst r l = r := by unfold lst; rw [if_pos h0]
theorem lst_err (r : Cx × Int) (l : List St) : (lst r l).2 = r.2 := by
  unfold lst
  by_cases h : r.2 = 0
  · rw [if_neg (fun x => x h), h]
  · rw [if_pos h]

theorem leaf_S {s : St} {d : Nat} {c : Cx} {vs : List Pm} {ls : List ByteArray} {x : Int} (ho : s.op ≠ 1 ∧ s.op ≠ 6) (hbd : s.body = []) (hel : s.els = []) (hv : c.vis = look vs)
    (hck : ckS c s = (c, x)) (hrf : rfS vs ls s = x) (h : x = 0 → scS (vs.map Pm.name) ls s = true ∧ ∀ g, Has g vs → OkSt g s) :
    (ckS c s).2 = rfS vs ls s ∧ ((ckS c s).2 = 0 → (ckS c s).1.vis = look (nxt vs s) ∧ scS (vs.map Pm.name) ls s = true ∧ ∃ ds, Aft c (ckS c s).1 vs ds (dS s) (preS s d)) := by
  rw [hck, hrf]
  refine ⟨rfl, fun h0 => ?_⟩
  obtain ⟨h1, h2⟩ := h h0
  refine ⟨?_, h1, [], ?_⟩
  · unfold nxt; rw [if_neg ho.1]; exact hv
  · obtain ⟨o, nm, mx, a, b, bd, el⟩ := s
    obtain rfl : bd = [] := hbd
    obtain rfl : el = [] := hel
    have ho1 : ¬ (o = 1 ∨ o = 6) := fun z => z.elim ho.1 ho.2
    rw [dS, dB, if_neg ho1, preS, preB]
    simp only [List.append_nil]
    exact aft_none (ex_two a b) ho h2
theorem asg_is {c : Cx} {vs : List Pm} {ls D : List ByteArray} (hi : Inv c vs ls D) (x : ByteArray) (t : Int) :
    c.asg x t = asgR vs ls x t ∧ (c.asg x t = 0 → look vs x = some t ∧ x ∉ ls) := by
  unfold Cx.asg asgR
  rw [hi.vis]
  cases hl : look vs x with
  | none => rw [tyV_none hl]; exact ⟨rfl, fun h => by cases h⟩
  | some u =>
    obtain ⟨p, hp, hpn, hpt⟩ := look_some hl
    have hm : x ∈ vs.map Pm.name := List.mem_map.2 ⟨p, hp, hpn⟩
    have hu : 1 ≤ u ∧ u ≤ 3 := hpt ▸ hi.rng p hp
    rw [tyV_some hl, if_pos hu]
    have hlo := hi.loop x hm
    simp only [ne_eq, not_true_eq_false, ↓reduceIte]
    cases hc : c.loops x with
    | true =>
      rw [if_pos rfl, if_pos (isIn_iff.2 (hlo.1 hc))]
      exact ⟨rfl, fun h => by cases h⟩
    | false =>
      have hx : x ∉ ls := fun z => by rw [hlo.2 z] at hc; cases hc
      rw [if_neg (by decide), if_neg (fun z => hx (isIn_iff.1 z))]
      by_cases h : t = u
      · rw [if_neg (fun z => z h), decide_eq_true h]; exact ⟨rfl, fun _ => ⟨by rw [h], hx⟩⟩
      · rw [if_pos h, decide_eq_false h]; exact ⟨rfl, fun z => by cases z⟩
mutual
theorem main_S : ∀ (s : St) (d : Nat) {c : Cx} {vs : List Pm} {ls : List ByteArray}, gS s → Inv c vs ls (dS s) →
    (ckS c s).2 = rfS vs ls s ∧ ((ckS c s).2 = 0 → (ckS c s).1.vis = look (nxt vs s) ∧ scS (vs.map Pm.name) ls s = true ∧ ∃ ds, Aft c (ckS c s).1 vs ds (dS s) (preS s d))
  | .mk o nm mx a b bd el, d, c, vs, ls, hg, hi => by
    rw [gS] at hg
    obtain ⟨⟨d0, hgood⟩, hgb, hge⟩ := hg
    have hA : uA o = true → vE a 1 = 0 := hgood.a
    have hB : uB o = true → vE b 1 = 0 := hgood.b
    have nA : uA o = false → absent a = true := fun h => abs_uA hgood h
    have nB : uB o = false → absent b = true := fun h => abs_uB hgood h
    have nD : uD o = false → bd = [] := fun h => no_body hgood h
    have nE : uE o = false → el = [] := fun h => no_else hgood h
    have ho : 1 ≤ o ∧ o ≤ 8 := op_rng hgood
    have hvis := hi.vis
    rcases (show o = 1 ∨ o = 2 ∨ o = 3 ∨ o = 4 ∨ o = 5 ∨ o = 6 ∨ o = 7 ∨ o = 8 by omega) with rfl | rfl | rfl | rfl | rfl | rfl | rfl | rfl
    · -- let
      obtain rfl := nD rfl
      obtain rfl := nE rfl
      have hva := hA rfl
      have hb0 := ty_absent (look vs) (nB rfl)
      rw [ckS, rfS, hvis, hb0]
      simp only [e2R, e1R, opsR1 (show (1 : Int) ≠ 8 ∧ (1 : Int) ≠ 3 ∧ (1 : Int) ≠ 6 by decide) hva, wrong]
      by_cases h0 : (tyE (look vs) a).2 = 0
      · simp only [h0]
        refine ⟨by simp, fun _ => ?_⟩
        rw [dS, dB] at hi
        have hx : nm ∉ vs.map Pm.name := nd_apart hi.nd (by simp)
        have hr := (ty_rng (look vs) a hva).resolve_right (by omega)
        refine ⟨?_, ?_, [⟨nm, (tyE (look vs) a).1⟩], ?_⟩
        · show put c.vis nm _ = _
          rw [hvis, put_look hx]; rfl
        · rw [scS, scB, kn_ty a hva h0, kn_absent _ (nB rfl)]; rfl
        · rw [dS, dB, preS, preB]
          have hxs := ex_two a b
          refine ⟨fun x h => Or.inl h, fun x h => h, rfl, rfl, fun g hgv v hv => ?_, fun out ho hno => ?_⟩
          · rw [List.append_nil, List.append_nil] at hv
            rcases List.mem_cons.1 hv with rfl | h
            · refine OkSt.mk (fun _ => ⟨(tyE (look vs) a).1, hr.2.1, hr.2.2, hgv.right ⟨nm, (tyE (look vs) a).1⟩ (by simp), ?_⟩) (fun h => nomatch h) (fun h => nomatch h) (fun h => nomatch h) (fun h => nomatch h) (fun h => nomatch h)
              have := ty_sub hgv.left.sub a h0
              exact this.trans (Prod.ext rfl h0)
            · exact okV_ex g hxs v h
          · rw [List.append_nil, List.append_nil, vaF, vaF_ex _ _ hxs]
            show out ++ [_] = _
            rw [of_valid _ (show vE (St.mk 1 nm mx a b [] []).a 1 = 0 from hva)]
            rw [ty_sub ho.sub (St.mk 1 nm mx a b [] []).a h0]; rfl
      · have h1 : (tyE (look vs) a).2 ≠ 0 := h0
        simp only [if_pos h1]
        refine ⟨by simp [h0], fun h => absurd h h1⟩
    · -- set
      obtain rfl := nD rfl
      obtain rfl := nE rfl
      have hva := hA rfl
      have hb0 := ty_absent (look vs) (nB rfl)
      by_cases h0 : (tyE (look vs) a).2 = 0
      · have hr := (ty_rng (look vs) a hva).resolve_right (by omega)
        obtain ⟨hs1, hs2⟩ := asg_is hi nm (tyE (look vs) a).1
        refine leaf_S (x := c.asg nm (tyE (look vs) a).1) ⟨by show (2 : Int) ≠ 1; decide, by show (2 : Int) ≠ 6; decide⟩ rfl rfl hvis ?_ ?_ fun hx => ?_
        · rw [ckS, hvis, hb0, if_neg (fun z => z h0), if_neg (fun z => z rfl), if_neg (by decide), if_pos rfl]
        · rw [rfS]
          simp only [e2R, e1R, opsR1 (show (2 : Int) ≠ 8 ∧ (2 : Int) ≠ 3 ∧ (2 : Int) ≠ 6 by decide) hva, wrong, h0, hs1]
          simp
        · obtain ⟨h3, h4⟩ := hs2 hx
          have hm : nm ∈ vs.map Pm.name := by
            obtain ⟨p, hp, rfl, -⟩ := look_some h3
            exact List.mem_map.2 ⟨p, hp, rfl⟩
          refine ⟨?_, fun g hg => ?_⟩
          · rw [scS, scB, scB, kn_ty a hva h0, kn_absent _ (nB rfl), isIn_iff.2 hm, isIn_no.2 h4]; rfl
          · exact OkSt.mk (fun _ => ⟨_, hr.2.1, hr.2.2, hg.sub _ _ h3, (ty_sub hg.sub a h0).trans (Prod.ext rfl h0)⟩) (fun h => nomatch h) (fun h => nomatch h) (fun h => nomatch h) (fun h => nomatch h) (fun h => nomatch h)
      · refine leaf_S (x := (tyE (look vs) a).2) ⟨by show (2 : Int) ≠ 1; decide, by show (2 : Int) ≠ 6; decide⟩ rfl rfl hvis ?_ ?_ fun hx => absurd hx h0
        · rw [ckS, hvis, if_pos h0]
        · rw [rfS]
          simp only [e2R, e1R, opsR1 (show (2 : Int) ≠ 8 ∧ (2 : Int) ≠ 3 ∧ (2 : Int) ≠ 6 by decide) hva, wrong, h0]
          simp [h0]
    · -- put
      obtain rfl := nD rfl
      obtain rfl := nE rfl
      have hva := hA rfl
      have hvb := hB rfl
      have ho2 := opsR2 (vs := vs) (show (3 : Int) = 3 ∨ (3 : Int) = 6 by decide) hva hvb
      by_cases h0 : (tyE (look vs) a).2 = 0
      · rw [if_neg (fun z => z h0)] at ho2
        by_cases h1 : (tyE (look vs) b).2 = 0
        · have hr := (ty_rng (look vs) a hva).resolve_right (by omega)
          have hrb := (ty_rng (look vs) b hvb).resolve_right (by omega)
          refine leaf_S (x := fitE (decide ((tyE (look vs) a).1 = 2) && !decide ((tyE (look vs) b).1 = 3))) ⟨by show (3 : Int) ≠ 1; decide, by show (3 : Int) ≠ 6; decide⟩ rfl rfl hvis ?_ ?_ fun hx => ?_
          · rw [ckS, hvis, if_neg (fun z => z h0), if_neg (fun z => z h1), if_neg (by decide), if_neg (by decide), if_pos rfl]
          · rw [rfS]
            simp only [e2R, e1R, ho2, wrong, h1]
            cases decide ((tyE (look vs) a).1 = 2) <;> cases decide ((tyE (look vs) b).1 = 3) <;> rfl
          · rw [fit_iff, Bool.and_eq_true, decide_eq_true_iff, Bool.not_eq_true', decide_eq_false_iff_not] at hx
            refine ⟨?_, fun g hg => ?_⟩
            · rw [scS, scB, scB, kn_ty a hva h0, kn_ty b hvb h1]; rfl
            · exact OkSt.mk (fun h => nomatch h) (fun _ => ⟨(ty_sub hg.sub a h0).trans (Prod.ext hx.1 h0), (show (tyE (look vs) b).1 = 1 ∨ (tyE (look vs) b).1 = 2 by omega).imp (fun z => (ty_sub hg.sub b h1).trans (Prod.ext z h1)) (fun z => (ty_sub hg.sub b h1).trans (Prod.ext z h1))⟩) (fun h => nomatch h) (fun h => nomatch h) (fun h => nomatch h) (fun h => nomatch h)
        · refine leaf_S (x := (tyE (look vs) b).2) ⟨by show (3 : Int) ≠ 1; decide, by show (3 : Int) ≠ 6; decide⟩ rfl rfl hvis ?_ ?_ fun hx => absurd hx h1
          · rw [ckS, hvis, if_neg (fun z => z h0), if_pos h1]
          · rw [rfS]
            simp only [e2R, e1R, ho2, wrong, h1]
            simp [h1]
      · rw [if_pos h0] at ho2
        refine leaf_S (x := (tyE (look vs) a).2) ⟨by show (3 : Int) ≠ 1; decide, by show (3 : Int) ≠ 6; decide⟩ rfl rfl hvis ?_ ?_ fun hx => absurd hx h0
        · rw [ckS, hvis, if_pos h0]
        · rw [rfS]
          simp only [e2R, e1R, ho2, wrong, h0]
          simp [h0]
    · -- delete
      obtain rfl := nD rfl
      obtain rfl := nE rfl
      have hva := hA rfl
      have hb0 := ty_absent (look vs) (nB rfl)
      by_cases h0 : (tyE (look vs) a).2 = 0
      · have hr := (ty_rng (look vs) a hva).resolve_right (by omega)
        refine leaf_S (x := fitE (decide ((tyE (look vs) a).1 = 2))) ⟨by show (4 : Int) ≠ 1; decide, by show (4 : Int) ≠ 6; decide⟩ rfl rfl hvis ?_ ?_ fun hx => ?_
        · rw [ckS, hvis, hb0, if_neg (fun z => z h0), if_neg (fun z => z rfl), if_neg (by decide), if_neg (by decide), if_neg (by decide), if_pos rfl]
        · rw [rfS]
          simp only [e2R, e1R, opsR1 (show (4 : Int) ≠ 8 ∧ (4 : Int) ≠ 3 ∧ (4 : Int) ≠ 6 by decide) hva, wrong, h0]
          cases decide ((tyE (look vs) a).1 = 2) <;> rfl
        · rw [fit_iff] at hx
          simp only [decide_eq_true_iff] at hx
          refine ⟨?_, fun g hg => ?_⟩
          · rw [scS, scB, scB, kn_ty a hva h0, kn_absent _ (nB rfl)]; rfl
          · exact OkSt.mk (fun h => nomatch h) (fun h => nomatch h) (fun _ => (ty_sub hg.sub a h0).trans (Prod.ext hx h0)) (fun h => nomatch h) (fun h => nomatch h) (fun h => nomatch h)
      · refine leaf_S (x := (tyE (look vs) a).2) ⟨by show (4 : Int) ≠ 1; decide, by show (4 : Int) ≠ 6; decide⟩ rfl rfl hvis ?_ ?_ fun hx => absurd hx h0
        · rw [ckS, hvis, if_pos h0]
        · rw [rfS]
          simp only [e2R, e1R, opsR1 (show (4 : Int) ≠ 8 ∧ (4 : Int) ≠ 3 ∧ (4 : Int) ≠ 6 by decide) hva, wrong, h0]
          simp [h0]
    · -- if
      have hva := hA rfl
      have hb0 := ty_absent (look vs) (nB rfl)
      have hd : dS (.mk 5 nm mx a b bd el) = dB bd ++ dB el := by rw [dS]; rfl
      rw [hd] at hi ⊢
      by_cases h0 : (tyE (look vs) a).2 = 0
      · have hr := (ty_rng (look vs) a hva).resolve_right (by omega)
        by_cases h3 : (tyE (look vs) a).1 = 3
        · have e2 : e2R vs ls 5 nm a b = 0 := by
            simp only [e2R, e1R, opsR1 (show (5 : Int) ≠ 8 ∧ (5 : Int) ≠ 3 ∧ (5 : Int) ≠ 6 by decide) hva, wrong, h0, h3]
            rfl
          obtain ⟨q1, q2⟩ := main_B bd (d + 1) hgb hi.body
          have eck : ckS c (.mk 5 nm mx a b bd el) = if (lst (ckB c bd) bd).2 ≠ 0 then lst (ckB c bd) bd else lst (ckB (lst (ckB c bd) bd).1 el) el := by
            rw [ckS, hvis, hb0, if_neg (fun z => z h0), if_neg (fun z => z rfl), if_neg (by decide), if_neg (by decide), if_neg (by decide), if_neg (by decide), if_pos rfl, if_neg (fun z => z h3)]
          have erf : rfS vs ls (.mk 5 nm mx a b bd el) = if rfB vs ls bd = 0 then rfB vs ls el else rfB vs ls bd := by
            rw [rfS, if_pos ⟨e2, rfl⟩]
          rw [eck, erf]
          by_cases hz : (ckB c bd).2 = 0
          · obtain ⟨⟨es, he, hves⟩, q3, ds1, A1⟩ := q2 hz
            have hl := lst_is hz hves he (nd_left hi.nd)
            rw [hl]
            have A1' : Aft c ⟨look vs, (ckB c bd).1.loops, (ckB c bd).1.decl⟩ vs ds1 (dB bd) (preB bd (d + 1)) := ⟨A1.loops, A1.keeps, A1.decl, A1.names, A1.ok, A1.vars⟩
            obtain ⟨r1, r2⟩ := main_B el (d + 1) hge (hi.after A1' rfl)
            rw [if_neg (fun z => z rfl), if_pos (q1 ▸ hz), lst_err]
            refine ⟨r1, fun hz2 => ?_⟩
            obtain ⟨⟨es2, he2, hves2⟩, r3, ds2, A2⟩ := r2 hz2
            rw [lst_is hz2 hves2 he2 (nd_skip hi.nd)]
            refine ⟨rfl, ?_, ds1 ++ ds2, ?_⟩
            · rw [scS, kn_ty a hva h0, kn_absent _ (nB rfl), if_neg (by decide), if_neg (by decide), q3, r3]; rfl
            · have hds1 : ds1.map Pm.name = dB bd := A1.names
              have hds2 : ds2.map Pm.name = dB el := A2.names
              refine ⟨fun x hx => ?_, fun x hx => A2.keeps x (A1.keeps x hx), ?_, by rw [List.map_append, hds1, hds2], fun g hg v hv => ?_, fun out ho hno => ?_⟩
              · rcases A2.loops x hx with h | h
                · rcases A1.loops x h with h | h
                  · exact Or.inl h
                  · exact Or.inr (List.mem_append.2 (Or.inl h))
                · exact Or.inr (List.mem_append.2 (Or.inr h))
              · show _ = _
                rw [A2.decl, A1.decl, List.append_assoc]
              · rw [preS] at hv
                rcases List.mem_cons.1 hv with rfl | hv
                · exact OkSt.mk (fun h => nomatch h) (fun h => nomatch h) (fun h => nomatch h) (fun _ => (ty_sub hg.left.sub a h0).trans (Prod.ext h3 h0)) (fun h => nomatch h) (fun h => nomatch h)
                · rcases List.mem_append.1 hv with hv | hv
                  · rcases List.mem_append.1 hv with hv | hv
                    · exact okV_ex g (ex_two a b) v hv
                    · exact A1.ok g (hg.left.both hg.right.left) v hv
                  · exact A2.ok g (hg.left.both hg.right.right) v hv
              · rw [preS, vaF, vaF_app, vaF_app, vaF_ex _ _ (ex_two a b)]
                have e0 : vaS out (.mk 5 nm mx a b bd el) = out := by unfold vaS; rw [if_neg (by show ¬ (5 : Int) = 1; decide), if_neg (by show ¬ (5 : Int) = 6; decide)]
                rw [e0, A1.vars out ho (nd_left hno), A2.vars (out ++ ds1) (fun p hp => look_more out ds1 _ _ (ho p hp)) ?_, List.append_assoc]
                rw [List.map_append, hds1, List.append_assoc]; exact hno
          · have hl := lst_bad (l := bd) hz
            rw [hl, if_pos hz, if_neg (fun z => hz (q1.trans z))]
            exact ⟨q1, fun z => absurd z hz⟩
        · have eck : ckS c (.mk 5 nm mx a b bd el) = (c, 10) := by
            rw [ckS, hvis, hb0, if_neg (fun z => z h0), if_neg (fun z => z rfl), if_neg (by decide), if_neg (by decide), if_neg (by decide), if_neg (by decide), if_pos rfl, if_pos h3]
          have e2 : e2R vs ls 5 nm a b = 10 := by
            simp only [e2R, e1R, opsR1 (show (5 : Int) ≠ 8 ∧ (5 : Int) ≠ 3 ∧ (5 : Int) ≠ 6 by decide) hva, wrong, h0, decide_eq_false h3]
            rfl
          rw [eck, rfS, e2]
          exact ⟨rfl, fun z => nomatch z⟩
      · have eck : ckS c (.mk 5 nm mx a b bd el) = (c, (tyE (look vs) a).2) := by rw [ckS, hvis, if_pos h0]
        have e2 : e2R vs ls 5 nm a b = (tyE (look vs) a).2 := by
          simp only [e2R, e1R, opsR1 (show (5 : Int) ≠ 8 ∧ (5 : Int) ≠ 3 ∧ (5 : Int) ≠ 6 by decide) hva, wrong, h0]
          simp [h0]
        rw [eck, rfS, e2, if_neg (fun z => h0 z.1), if_neg (fun z => h0 z.1)]
        exact ⟨rfl, fun z => absurd z h0⟩
    · -- for
      obtain rfl := nE rfl
      have hva := hA rfl
      have hvb := hB rfl
      have ho2 := opsR2 (vs := vs) (show (6 : Int) = 3 ∨ (6 : Int) = 6 by decide) hva hvb
      have hd : dS (.mk 6 nm mx a b bd []) = [nm] ++ dB bd := by rw [dS, dB, List.append_nil]; rfl
      rw [hd] at hi ⊢
      by_cases h0 : (tyE (look vs) a).2 = 0
      · rw [if_neg (fun z => z h0)] at ho2
        by_cases h1 : (tyE (look vs) b).2 = 0
        · by_cases h3 : (tyE (look vs) a).1 = 1 ∧ (tyE (look vs) b).1 = 1
          · have e2 : e2R vs ls 6 nm a b = 0 := by
              simp only [e2R, e1R, ho2, wrong, h1, h3.1, h3.2]
              rfl
            have hx : nm ∉ vs.map Pm.name := nd_apart hi.nd (by simp)
            obtain ⟨q1, q2⟩ := main_B bd (d + 1) hgb hi.enter
            have eck : ckS c (.mk 6 nm mx a b bd []) = unl (lst (ckB (c.loop nm) bd) bd) nm := by
              rw [ckS, hvis, if_neg (fun z => z h0), if_neg (fun z => z h1), if_neg (by decide), if_neg (by decide), if_neg (by decide), if_neg (by decide), if_neg (by decide), if_pos rfl, if_neg (fun z => z.elim (fun y => y h3.1) (fun y => y h3.2))]
            have erf : rfS vs ls (.mk 6 nm mx a b bd []) = rfB (vs ++ [⟨nm, 1⟩]) (ls ++ [nm]) bd := by
              rw [rfS, if_neg (fun z => nomatch z.2), if_pos ⟨e2, rfl⟩]
            rw [eck, erf]
            have hun : (unl (lst (ckB (c.loop nm) bd) bd) nm).2 = (ckB (c.loop nm) bd).2 := lst_err _ _
            rw [hun]
            refine ⟨q1, fun hz => ?_⟩
            obtain ⟨⟨es, he, hves⟩, q3, ds1, A1⟩ := q2 hz
            rw [lst_is hz hves he hi.enter.nd]
            have hnx : nxt vs (.mk 6 nm mx a b bd []) = vs := if_neg (by show ¬ (6 : Int) = 1; decide)
            refine ⟨?_, ?_, [⟨nm, 1⟩] ++ ds1, ?_⟩
            · rw [hnx]; exact del_look hx 1
            · rw [scS, kn_ty a hva h0, kn_ty b hvb h1, if_pos rfl, if_pos rfl]
              have q3' : scB (vs.map Pm.name ++ [nm]) (ls ++ [nm]) bd = true := by rw [List.map_append] at q3; exact q3
              rw [q3', scB]; rfl
            · have hds1 : ds1.map Pm.name = dB bd := A1.names
              have hnda : vs ++ ([⟨nm, 1⟩] ++ ds1) = vs ++ [⟨nm, 1⟩] ++ ds1 := by rw [List.append_assoc]
              refine ⟨fun x hxl => ?_, fun x hxl => A1.keeps x ?_, ?_, by rw [List.map_append, hds1]; rfl, fun g hg v hv => ?_, fun out ho hno => ?_⟩
              · rcases A1.loops x hxl with h | h
                · have h' : (decide (nm = x) || c.loops x) = true := h
                  rw [Bool.or_eq_true, decide_eq_true_iff] at h'
                  rcases h' with rfl | h'
                  · exact Or.inr (by simp)
                  · exact Or.inl h'
                · exact Or.inr (List.mem_append.2 (Or.inr h))
              · show (decide (nm = x) || c.loops x) = true
                rw [hxl, Bool.or_true]
              · show (ckB (c.loop nm) bd).1.decl = _
                rw [A1.decl]
                show c.decl ++ [⟨nm, 1⟩] ++ ds1 = _
                rw [List.append_assoc]
              · rw [preS, preB, List.append_nil] at hv
                rcases List.mem_cons.1 hv with rfl | hv
                · exact OkSt.mk (fun h => nomatch h) (fun h => nomatch h) (fun h => nomatch h) (fun h => nomatch h) (fun _ => ⟨(ty_sub hg.left.sub a h0).trans (Prod.ext h3.1 h0), (ty_sub hg.left.sub b h1).trans (Prod.ext h3.2 h1), hg ⟨nm, 1⟩ (by simp)⟩) (fun h => nomatch h)
                · rcases List.mem_append.1 hv with hv | hv
                  · exact okV_ex g (ex_two a b) v hv
                  · exact A1.ok g (hnda ▸ hg) v hv
              · rw [preS, preB, List.append_nil, vaF, vaF_app, vaF_ex _ _ (ex_two a b)]
                have e0 : vaS out (.mk 6 nm mx a b bd []) = out ++ [⟨nm, 1⟩] := by unfold vaS; rw [if_neg (by show ¬ (6 : Int) = 1; decide), if_pos (by show (6 : Int) = 6; decide)]; rfl
                have hno1 : ((out ++ [(⟨nm, 1⟩ : Pm)]).map Pm.name ++ dB bd).Nodup := by
                  rw [List.map_append, List.append_assoc]; exact hno
                rw [e0, A1.vars (out ++ [(⟨nm, 1⟩ : Pm)]) (fun p hp => ?_) hno1, List.append_assoc]
                rcases List.mem_append.1 hp with hp | hp
                · exact look_more out _ _ _ (ho p hp)
                · exact look_mem (List.nodup_append.1 hno1).1 (List.mem_append.2 (Or.inr hp))
          · have eck : ckS c (.mk 6 nm mx a b bd []) = (c, 10) := by
              rw [ckS, hvis, if_neg (fun z => z h0), if_neg (fun z => z h1), if_neg (by decide), if_neg (by decide), if_neg (by decide), if_neg (by decide), if_neg (by decide), if_pos rfl, if_pos (by omega)]
            have e2 : e2R vs ls 6 nm a b = 10 := by
              have hw : wrong 6 (tyE (look vs) a).1 (tyE (look vs) b).1 = true := by
                unfold wrong
                rw [if_neg (by decide), if_neg (by decide), if_neg (by decide), if_pos rfl, Bool.or_eq_true]
                by_cases h4 : (tyE (look vs) a).1 = 1
                · exact Or.inr (by rw [decide_eq_false (fun z => h3 ⟨h4, z⟩)]; rfl)
                · exact Or.inl (by rw [decide_eq_false h4]; rfl)
              simp only [e2R, e1R, ho2, h1, hw]
              rfl
            rw [eck, rfS, e2]
            exact ⟨rfl, fun z => nomatch z⟩
        · have eck : ckS c (.mk 6 nm mx a b bd []) = (c, (tyE (look vs) b).2) := by rw [ckS, hvis, if_neg (fun z => z h0), if_pos h1]
          have e2 : e2R vs ls 6 nm a b = (tyE (look vs) b).2 := by
            simp only [e2R, e1R, ho2, wrong, h1]
            simp [h1]
          rw [eck, rfS, e2, if_neg (fun z => h1 z.1), if_neg (fun z => h1 z.1)]
          exact ⟨rfl, fun z => absurd z h1⟩
      · rw [if_pos h0] at ho2
        have eck : ckS c (.mk 6 nm mx a b bd []) = (c, (tyE (look vs) a).2) := by rw [ckS, hvis, if_pos h0]
        have e2 : e2R vs ls 6 nm a b = (tyE (look vs) a).2 := by
          simp only [e2R, e1R, ho2, wrong, h0]
          simp [h0]
        rw [eck, rfS, e2, if_neg (fun z => h0 z.1), if_neg (fun z => h0 z.1)]
        exact ⟨rfl, fun z => absurd z h0⟩
    · -- emit
      obtain rfl := nD rfl
      obtain rfl := nE rfl
      have hva := hA rfl
      have hb0 := ty_absent (look vs) (nB rfl)
      by_cases h0 : (tyE (look vs) a).2 = 0
      · have hr := (ty_rng (look vs) a hva).resolve_right (by omega)
        refine leaf_S (x := fitE (!decide ((tyE (look vs) a).1 = 3))) ⟨by show (7 : Int) ≠ 1; decide, by show (7 : Int) ≠ 6; decide⟩ rfl rfl hvis ?_ ?_ fun hx => ?_
        · rw [ckS, hvis, hb0, if_neg (fun z => z h0), if_neg (fun z => z rfl), if_neg (by decide), if_neg (by decide), if_neg (by decide), if_neg (by decide), if_neg (by decide), if_neg (by decide), if_pos rfl]
        · rw [rfS]
          simp only [e2R, e1R, opsR1 (show (7 : Int) ≠ 8 ∧ (7 : Int) ≠ 3 ∧ (7 : Int) ≠ 6 by decide) hva, wrong, h0]
          cases decide ((tyE (look vs) a).1 = 3) <;> rfl
        · rw [fit_iff] at hx
          simp only [Bool.not_eq_true', decide_eq_false_iff_not] at hx
          refine ⟨?_, fun g hg => ?_⟩
          · rw [scS, scB, scB, kn_ty a hva h0, kn_absent _ (nB rfl)]; rfl
          · exact OkSt.mk (fun h => nomatch h) (fun h => nomatch h) (fun h => nomatch h) (fun h => nomatch h) (fun h => nomatch h) (fun _ => (show (tyE (look vs) a).1 = 1 ∨ (tyE (look vs) a).1 = 2 by omega).imp (fun z => (ty_sub hg.sub a h0).trans (Prod.ext z h0)) (fun z => (ty_sub hg.sub a h0).trans (Prod.ext z h0)))
      · refine leaf_S (x := (tyE (look vs) a).2) ⟨by show (7 : Int) ≠ 1; decide, by show (7 : Int) ≠ 6; decide⟩ rfl rfl hvis ?_ ?_ fun hx => absurd hx h0
        · rw [ckS, hvis, if_pos h0]
        · rw [rfS]
          simp only [e2R, e1R, opsR1 (show (7 : Int) ≠ 8 ∧ (7 : Int) ≠ 3 ∧ (7 : Int) ≠ 6 by decide) hva, wrong, h0]
          simp [h0]
    · -- abort
      obtain rfl := nD rfl
      obtain rfl := nE rfl
      have ha0 := ty_absent (look vs) (nA rfl)
      have hb0 := ty_absent (look vs) (nB rfl)
      refine leaf_S (x := 0) ⟨by show (8 : Int) ≠ 1; decide, by show (8 : Int) ≠ 6; decide⟩ rfl rfl hvis ?_ ?_ fun hx => ⟨?_, fun g hg => ?_⟩
      · rw [ckS, hvis, ha0, hb0]; rfl
      · rw [rfS]
        simp only [e2R, e1R, opsR, wrong]
        rfl
      · rw [scS, scB, scB, kn_absent _ (nA rfl), kn_absent _ (nB rfl)]; rfl
      · exact OkSt.mk (fun h => nomatch h) (fun h => nomatch h) (fun h => nomatch h) (fun h => nomatch h) (fun h => nomatch h) (fun h => nomatch h)
theorem main_B : ∀ (l : List St) (d : Nat) {c : Cx} {vs : List Pm} {ls : List ByteArray}, gB l → Inv c vs ls (dB l) →
    (ckB c l).2 = rfB vs ls l ∧ ((ckB c l).2 = 0 → (∃ es : List Pm, es.map Pm.name = lets l ∧ (ckB c l).1.vis = look (vs ++ es)) ∧ scB (vs.map Pm.name) ls l = true ∧ ∃ ds, Aft c (ckB c l).1 vs ds (dB l) (preB l d))
  | [], d, c, vs, ls, _, hi => by
    rw [ckB, rfB, dB, preB]
    refine ⟨rfl, fun _ => ⟨⟨[], rfl, by rw [List.append_nil]; exact hi.vis⟩, by rw [scB], [], ?_⟩⟩
    exact Aft.mk (fun x h => Or.inl h) (fun x h => h) (by rw [List.append_nil]) rfl (fun g hg v hv => nomatch hv) (fun out _ _ => by rw [vaF, List.append_nil])
  | s :: r, d, c, vs, ls, hg, hi => by
    rw [gB] at hg
    rw [dB] at hi ⊢
    obtain ⟨q1, q2⟩ := main_S s d hg.1 hi.body
    rw [ckB, rfB, ← q1]
    by_cases hz : (ckS c s).2 = 0
    · rw [if_neg (fun z => z hz), if_neg (fun z => z hz)]
      obtain ⟨qv, q3, ds1, A1⟩ := q2 hz
      have hnt : nxt vs s = if s.op = 1 then vs ++ [⟨s.name, (opsR vs s.op s.a s.b).1⟩] else vs := by
        unfold nxt
        by_cases h1 : s.op = 1
        · rw [if_pos h1, if_pos h1]
          obtain ⟨o, nm, mx, a, b, bd, el⟩ := s
          obtain rfl : o = 1 := h1
          have hg1 := hg.1
          rw [gS] at hg1
          obtain ⟨⟨d0, hgood⟩, -⟩ := hg1
          show _ = vs ++ [⟨nm, (opsR vs 1 a b).1⟩]
          have hva : vE a 1 = 0 := hgood.a rfl
          rw [opsR1 (show (1 : Int) ≠ 8 ∧ (1 : Int) ≠ 3 ∧ (1 : Int) ≠ 6 by decide) hva]; rfl
        · rw [if_neg h1, if_neg h1]
      rw [← hnt]
      have hgs : s.op = 1 → dS s = [s.name] ∧ (tyE (look vs) s.a).2 = 0 ∧ vE s.a 1 = 0 ∧ ds1 = [⟨s.name, (tyE (look vs) s.a).1⟩] ∧ (ckS c s).1.loops = c.loops := fun h1 => by
        obtain ⟨o, nm, mx, a, b, bd, el⟩ := s
        obtain rfl : o = 1 := h1
        have hg1 := hg.1
        rw [gS] at hg1
        obtain ⟨⟨d0, hgood⟩, -⟩ := hg1
        obtain rfl : bd = [] := no_body hgood rfl
        obtain rfl : el = [] := no_else hgood rfl
        have h0 : (tyE (look vs) a).2 = 0 := Decidable.byContradiction fun h => by
          rw [ckS, hi.vis, if_pos h] at hz
          exact h hz
        have hb0 := ty_absent (look vs) (abs_uB hgood rfl)
        have eck : ckS c (.mk 1 nm mx a b [] []) = (c.declare nm (tyE (look vs) a).1, 0) := by
          have hb0' : tyE (look vs) b = (0, 0) := hb0
          rw [ckS, hi.vis, hb0', if_neg (fun z => z h0), if_neg (fun z => z rfl), if_pos rfl]
        refine ⟨by rw [dS, dB]; rfl, h0, hgood.a rfl, ?_, by rw [eck]; rfl⟩
        have hd := A1.decl
        rw [eck] at hd
        exact (List.append_cancel_left hd).symm
      have hi2 : Inv (ckS c s).1 (nxt vs s) ls (dB r) := by
        by_cases h1 : s.op = 1
        · obtain ⟨k1, k2, k3, k4, k5⟩ := hgs h1
          have hnx : nxt vs s = vs ++ [⟨s.name, (tyE (look vs) s.a).1⟩] := if_pos h1
          rw [hnx] at qv ⊢
          rw [k1] at hi
          have hx : s.name ∉ vs.map Pm.name := nd_apart hi.nd (by simp)
          have hm : (vs ++ [(⟨s.name, (tyE (look vs) s.a).1⟩ : Pm)]).map Pm.name = vs.map Pm.name ++ [s.name] := by rw [List.map_append]; rfl
          refine Inv.mk qv (fun x hxm => ?_) (fun x hxl => ?_) ?_ (fun x hxd => ?_) (fun p hp => ?_)
          · rw [hm] at hxm
            rw [k5]
            rcases List.mem_append.1 hxm with h | h
            · exact hi.loop x h
            · have hxe : x = s.name := List.mem_singleton.1 h
              subst hxe
              rw [hi.free s.name (by simp)]
              exact ⟨fun z => (nomatch z), fun z => absurd (hi.sub _ z) hx⟩
          · rw [hm]; exact List.mem_append.2 (Or.inl (hi.sub x hxl))
          · rw [hm, List.append_assoc]; exact hi.nd
          · rw [k5]; exact hi.free x (List.mem_append.2 (Or.inr hxd))
          · rcases List.mem_append.1 hp with h | h
            · exact hi.rng p h
            · rw [List.mem_singleton.1 h]
              exact ((ty_rng (look vs) s.a k3).resolve_right (by omega)).2
        · have hnx : nxt vs s = vs := if_neg h1
          rw [hnx] at qv ⊢
          exact hi.after A1 qv
      have hds1 : ds1.map Pm.name = dS s := A1.names
      have hsubs : ∀ p ∈ nxt vs s, p ∈ vs ++ ds1 := fun p hp => by
        by_cases h1 : s.op = 1
        · obtain ⟨-, -, -, k4, -⟩ := hgs h1
          rw [k4]
          rw [show nxt vs s = vs ++ [⟨s.name, (tyE (look vs) s.a).1⟩] from if_pos h1] at hp
          exact hp
        · rw [show nxt vs s = vs from if_neg h1] at hp
          exact List.mem_append.2 (Or.inl hp)
      obtain ⟨r1, r2⟩ := main_B r d hg.2 hi2
      refine ⟨r1, fun hz2 => ?_⟩
      obtain ⟨⟨es, he, hves⟩, r3, ds2, A2⟩ := r2 hz2
      have hds2 : ds2.map Pm.name = dB r := A2.names
      refine ⟨?_, ?_, ds1 ++ ds2, ?_⟩
      · rw [lets]
        by_cases h1 : s.op = 1
        · refine ⟨⟨s.name, (tyE (look vs) s.a).1⟩ :: es, ?_, ?_⟩
          · rw [if_pos h1, List.map_cons, he]; rfl
          · rw [hves, show nxt vs s = vs ++ [⟨s.name, (tyE (look vs) s.a).1⟩] from if_pos h1, List.append_assoc]; rfl
        · refine ⟨es, ?_, ?_⟩
          · rw [if_neg h1, he]; rfl
          · rw [hves, show nxt vs s = vs from if_neg h1]
      · rw [scB, q3, Bool.true_and]
        by_cases h1 : s.op = 1
        · rw [if_pos h1]
          rw [show nxt vs s = vs ++ [⟨s.name, (tyE (look vs) s.a).1⟩] from if_pos h1, List.map_append] at r3
          exact r3
        · rw [if_neg h1]
          rw [show nxt vs s = vs from if_neg h1] at r3
          exact r3
      · refine Aft.mk (fun x hx => ?_) (fun x hx => A2.keeps x (A1.keeps x hx)) ?_ (by rw [List.map_append, hds1, hds2]) (fun g hgg v hv => ?_) (fun out ho hno => ?_)
        · rcases A2.loops x hx with h | h
          · rcases A1.loops x h with h | h
            · exact Or.inl h
            · exact Or.inr (List.mem_append.2 (Or.inl h))
          · exact Or.inr (List.mem_append.2 (Or.inr h))
        · rw [A2.decl, A1.decl, List.append_assoc]
        · rw [preB] at hv
          rcases List.mem_append.1 hv with hv | hv
          · exact A1.ok g (hgg.left.both hgg.right.left) v hv
          · refine A2.ok g (Has.both (fun p hp => ?_) hgg.right.right) v hv
            exact (hgg.left.both hgg.right.left) p (hsubs p hp)
        · have hno1 : ((out ++ ds1).map Pm.name ++ dB r).Nodup := by rw [List.map_append, hds1, List.append_assoc]; exact hno
          rw [preB, vaF_app, A1.vars out ho (nd_left hno), A2.vars (out ++ ds1) (fun p hp => ?_) hno1, List.append_assoc]
          rcases List.mem_append.1 (hsubs p hp) with h | h
          · exact look_more out ds1 _ _ (ho p h)
          · exact look_mem (List.nodup_append.1 hno1).1 (List.mem_append.2 (Or.inr h))
    · rw [if_pos hz, if_pos hz]
      exact ⟨rfl, fun z => absurd z hz⟩
end
end Go.Proofs.YtnelpgeiioflmaaGreatDoor.Y
