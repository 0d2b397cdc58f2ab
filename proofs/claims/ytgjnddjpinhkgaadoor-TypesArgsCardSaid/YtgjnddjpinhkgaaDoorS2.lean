/-
  Declarations of texts that lie merged: what further laws need of YProc.
-/
import Derived.Test.YtgjnddjpinhkgaaDoorQYProc
import Derived.Test.YtgjnddjpinhkgaaDoorS1
namespace Go.Proofs.YtgjnddjpinhkgaaDoor.Y
open A (Ex St Pm Pr V arity vE vEs nodeE absent Good stE preE preEs preR preS preB walk names valE renE renEs renS renB ren swap nam occurs)
theorem chk_bad {p : Pr} (h : (chk p).2 ≠ 0) : (chk p).1 = [] := by
  unfold chk at h ⊢
  by_cases h1 : valE p = 0
  · rw [if_neg (fun z => z h1)] at h ⊢
    cases hb : anyB p
    · rw [hb] at h
      rw [if_neg (by decide)] at h ⊢
      cases hr : rep [] (names p)
      · rw [hr] at h
        rw [if_neg (by decide)] at h ⊢
        by_cases h2 : (run p).2 = 0
        · rw [if_neg (fun z => z h2)] at h; exact absurd rfl h
        · rw [if_pos h2]
      · rw [if_pos rfl]
    · rw [if_pos rfl]
  · rw [if_pos h1]
/-! ### renaming -/
section
variable {f t : ByteArray}
theorem tyV_ren {g g' : Env} (h : ∀ x, x ≠ t → g' (swap f t x) = g x) {s : ByteArray} (hs : s ≠ t) : tyV g' (swap f t s) = tyV g s := by unfold tyV; rw [h s hs]
mutual
theorem ty_ren {g g' : Env} (h : ∀ x, x ≠ t → g' (swap f t x) = g x) : ∀ (e : Ex) (r : Bool), (∀ v ∈ preE e r, V.says t v = false) → tyE g' (renE f t e) = tyE g e
  | .mk o n s l, r, hs => by
    rw [preE] at hs
    rw [renE]
    by_cases ho : o = 3
    · have h1 := hs _ List.mem_cons_self
      have h2 : s ≠ t := fun z => by
        have h3 : (decide (o = 3) && decide (s = t)) = false := h1
        rw [decide_eq_true ho, decide_eq_true z] at h3; cases h3
      rw [if_pos ho, tyE, tyE, if_pos ho, if_pos ho, tyV_ren h h2]
    · rw [ty_node g' ho, ty_node g ho, tys_ren h l fun v hv => hs v (List.mem_cons_of_mem _ hv)]
theorem tys_ren {g g' : Env} (h : ∀ x, x ≠ t → g' (swap f t x) = g x) : ∀ (l : List Ex), (∀ v ∈ preEs l, V.says t v = false) → tyEs g' (renEs f t l) = tyEs g l
  | [], _ => by rw [renEs, tyEs, tyEs]
  | e :: r, hs => by
    rw [preEs] at hs
    rw [renEs, tyEs, tyEs, ty_ren h e false fun v hv => hs v (List.mem_append.2 (Or.inl hv)), tys_ren h r fun v hv => hs v (List.mem_append.2 (Or.inr hv))]
end
theorem ty_renR {g g' : Env} (h : ∀ x, x ≠ t → g' (swap f t x) = g x) {e : Ex} (hs : ∀ v ∈ preR e, V.says t v = false) : tyE g' (renE f t e) = tyE g e := by
  cases ha : absent e
  · unfold preR at hs
    rw [ha, if_neg (by decide)] at hs
    exact ty_ren h e true hs
  · rw [ty_absent g ha, ty_absent g' (by rw [A.ren_absent]; exact ha)]
theorem del_ren {g g' : Env} (h : ∀ x, x ≠ t → g' (swap f t x) = g x) {x : ByteArray} (hx : x ≠ t) : ∀ y, y ≠ t → del g' (swap f t x) (swap f t y) = del g x y := fun y hy => by
  unfold del
  rw [h y hy]
  simp only [swap_inj hx hy]
theorem op_ren (s : St) : (renS f t s).op = s.op := by obtain ⟨o, nm, mx, a, b, bd, el⟩ := s; rw [renS]; rfl
theorem name_ren (s : St) : (renS f t s).name = swap f t s.name := by obtain ⟨o, nm, mx, a, b, bd, el⟩ := s; rw [renS]; rfl
theorem dels_ren : ∀ (l : List St) {g g' : Env}, (∀ x, x ≠ t → g' (swap f t x) = g x) → (∀ s ∈ l, s.name ≠ t) → ∀ y, y ≠ t → dels g' (renB f t l) (swap f t y) = dels g l y
  | [], g, g', h, _ => by rw [renB, dels, dels]; exact h
  | s :: r, g, g', h, hs => by
    rw [renB, dels, dels, op_ren, name_ren]
    by_cases h1 : s.op = 1
    · rw [if_pos h1, if_pos h1]; exact dels_ren r (del_ren h (hs s (by simp))) fun x hx => hs x (List.mem_cons_of_mem _ hx)
    · rw [if_neg h1, if_neg h1]; exact dels_ren r h fun x hx => hs x (List.mem_cons_of_mem _ hx)
theorem asg_ren {c c' : Cx} (h : Rn f t c c') {x : ByteArray} (hx : x ≠ t) (ty : Int) : c'.asg (swap f t x) ty = c.asg x ty := by
  unfold Cx.asg
  rw [h.vis x hx, h.loops x hx]
theorem names_said : ∀ (l : List St) (d : Nat), (∀ v ∈ preB l d, V.says t v = false) → ∀ s ∈ l, s.name ≠ t
  | s :: r, d, h, x, hx => by
    rw [preB] at h
    rcases List.mem_cons.1 hx with rfl | hx
    · obtain ⟨o, nm, mx, a, b, bd, el⟩ := x
      rw [preS] at h
      have h1 : decide (nm = t) = false := h (V.st (.mk o nm mx a b bd el) d) (by simp)
      exact of_decide_eq_false h1
    · exact names_said r d (fun v hv => h v (List.mem_append.2 (Or.inr hv))) x hx
theorem lst_ren {r r' : Cx × Int} (h1 : r'.2 = r.2) (h2 : Rn f t r.1 r'.1) {l : List St} (hl : ∀ s ∈ l, s.name ≠ t) : (lst r' (renB f t l)).2 = (lst r l).2 ∧ Rn f t (lst r l).1 (lst r' (renB f t l)).1 := by
  unfold lst
  by_cases h : r.2 = 0
  · have H1 : ¬ (r.2 ≠ 0) := fun z => z h
    have H2 : ¬ (r'.2 ≠ 0) := fun z => z (h1.trans h)
    rw [if_neg H1, if_neg H2]
    exact ⟨rfl, dels_ren l h2.vis hl, h2.loops, h2.decl⟩
  · rw [if_pos h, if_pos (fun z => h (h1 ▸ z))]
    exact ⟨h1, h2⟩
mutual
theorem ckS_ren : ∀ (s : St) (d : Nat) {c c' : Cx}, Rn f t c c' → (∀ v ∈ preS s d, V.says t v = false) → (ckS c' (renS f t s)).2 = (ckS c s).2 ∧ Rn f t (ckS c s).1 (ckS c' (renS f t s)).1
  | .mk o nm mx a b bd el, d, c, c', h, hs => by
    rw [preS] at hs
    have hn : nm ≠ t := of_decide_eq_false (hs (V.st (.mk o nm mx a b bd el) d) (by simp) : decide (nm = t) = false)
    have ha := ty_renR h.vis (e := a) fun v hv => hs v (by simp [hv])
    have hb := ty_renR h.vis (e := b) fun v hv => hs v (by simp [hv])
    have hbd : ∀ v ∈ preB bd (d + 1), V.says t v = false := fun v hv => hs v (by simp [hv])
    have hel : ∀ v ∈ preB el (d + 1), V.says t v = false := fun v hv => hs v (by simp [hv])
    rw [renS, ckS, ckS, ha, hb]
    by_cases h1 : (tyE c.vis a).2 = 0
    case neg => rw [if_pos h1, if_pos h1]; exact ⟨rfl, h⟩
    have H1 : ¬ ((tyE c.vis a).2 ≠ 0) := fun z => z h1
    rw [if_neg H1, if_neg H1]
    by_cases h2 : (tyE c.vis b).2 = 0
    case neg => rw [if_pos h2, if_pos h2]; exact ⟨rfl, h⟩
    have H2 : ¬ ((tyE c.vis b).2 ≠ 0) := fun z => z h2
    rw [if_neg H2, if_neg H2]
    by_cases o1 : o = 1
    · rw [if_pos o1, if_pos o1]; exact ⟨rfl, h.declare hn _⟩
    rw [if_neg o1, if_neg o1]
    by_cases o2 : o = 2
    · rw [if_pos o2, if_pos o2]; exact ⟨asg_ren h hn _, h⟩
    rw [if_neg o2, if_neg o2]
    by_cases o3 : o = 3
    · rw [if_pos o3, if_pos o3]; exact ⟨rfl, h⟩
    rw [if_neg o3, if_neg o3]
    by_cases o4 : o = 4
    · rw [if_pos o4, if_pos o4]; exact ⟨rfl, h⟩
    rw [if_neg o4, if_neg o4]
    by_cases o5 : o = 5
    · rw [if_pos o5, if_pos o5]
      by_cases h3 : (tyE c.vis a).1 = 3
      case neg => rw [if_pos h3, if_pos h3]; exact ⟨rfl, h⟩
      have H3 : ¬ ((tyE c.vis a).1 ≠ 3) := fun z => z h3
      rw [if_neg H3, if_neg H3]
      obtain ⟨k1, k2⟩ := ckB_ren bd (d + 1) h hbd
      obtain ⟨k3, k4⟩ := lst_ren k1 k2 (names_said bd (d + 1) hbd)
      by_cases h4 : (lst (ckB c bd) bd).2 = 0
      case neg => rw [if_pos h4, if_pos (fun z => h4 (k3 ▸ z))]; exact ⟨k3, k4⟩
      have H4 : ¬ ((lst (ckB c bd) bd).2 ≠ 0) := fun z => z h4
      have H5 : ¬ ((lst (ckB c' (renB f t bd)) (renB f t bd)).2 ≠ 0) := fun z => z (k3.trans h4)
      rw [if_neg H4, if_neg H5]
      obtain ⟨k5, k6⟩ := ckB_ren el (d + 1) k4 hel
      exact lst_ren k5 k6 (names_said el (d + 1) hel)
    rw [if_neg o5, if_neg o5]
    by_cases o6 : o = 6
    · rw [if_pos o6, if_pos o6]
      by_cases h3 : (tyE c.vis a).1 ≠ 1 ∨ (tyE c.vis b).1 ≠ 1
      · rw [if_pos h3, if_pos h3]; exact ⟨rfl, h⟩
      rw [if_neg h3, if_neg h3]
      obtain ⟨k1, k2⟩ := ckB_ren bd (d + 1) (h.loop hn) hbd
      obtain ⟨k3, k4⟩ := lst_ren k1 k2 (names_said bd (d + 1) hbd)
      exact ⟨k3, del_ren k4.vis hn, k4.loops, k4.decl⟩
    rw [if_neg o6, if_neg o6]
    by_cases o7 : o = 7
    · rw [if_pos o7, if_pos o7]; exact ⟨rfl, h⟩
    rw [if_neg o7, if_neg o7]; exact ⟨rfl, h⟩
theorem ckB_ren : ∀ (l : List St) (d : Nat) {c c' : Cx}, Rn f t c c' → (∀ v ∈ preB l d, V.says t v = false) → (ckB c' (renB f t l)).2 = (ckB c l).2 ∧ Rn f t (ckB c l).1 (ckB c' (renB f t l)).1
  | [], d, c, c', h, _ => by rw [renB, ckB, ckB]; exact ⟨rfl, h⟩
  | s :: r, d, c, c', h, hs => by
    rw [preB] at hs
    rw [renB, ckB, ckB]
    obtain ⟨k1, k2⟩ := ckS_ren s d h fun v hv => hs v (List.mem_append.2 (Or.inl hv))
    by_cases h1 : (ckS c s).2 = 0
    · have H1 : ¬ ((ckS c s).2 ≠ 0) := fun z => z h1
      have H2 : ¬ ((ckS c' (renS f t s)).2 ≠ 0) := fun z => z (k1.trans h1)
      rw [if_neg H1, if_neg H2]
      exact ckB_ren r d k2 fun v hv => hs v (List.mem_append.2 (Or.inr hv))
    · rw [if_pos h1, if_pos (fun z => h1 (k1 ▸ z))]; exact ⟨k1, k2⟩
end
theorem decls_ren : ∀ (l : List Pm) {c c' : Cx}, Rn f t c c' → (∀ q ∈ l, q.name ≠ t) → Rn f t (c.decls l) (c'.decls (l.map fun q => ⟨swap f t q.name, q.ty⟩))
  | [], c, c', h, _ => h
  | q :: r, c, c', h, hq => by
    rw [List.map_cons, Cx.decls, Cx.decls]
    exact decls_ren r (h.declare (hq q (by simp)) q.ty) fun x hx => hq x (List.mem_cons_of_mem _ hx)
theorem rep_ren : ∀ (l seen : List ByteArray), (∀ x ∈ l, x ≠ t) → (∀ x ∈ seen, x ≠ t) → rep (seen.map (swap f t)) (l.map (swap f t)) = rep seen l
  | [], _, _, _ => rfl
  | x :: r, seen, h, hs => by
    rw [List.map_cons, rep, rep]
    have hx := h x (by simp)
    have h1 : isIn (swap f t x) (seen.map (swap f t)) = isIn x seen := by
      unfold isIn
      rw [List.any_map]
      rw [Bool.eq_iff_iff, List.any_eq_true, List.any_eq_true]
      constructor
      · rintro ⟨y, hy, h2⟩; exact ⟨y, hy, by simpa [swap_inj (hs y hy) hx] using h2⟩
      · rintro ⟨y, hy, h2⟩; exact ⟨y, hy, by simpa [swap_inj (hs y hy) hx] using h2⟩
    have h2 : seen.map (swap f t) ++ [swap f t x] = (seen ++ [x]).map (swap f t) := by rw [List.map_append]; rfl
    rw [h1, h2, rep_ren r (seen ++ [x]) (fun y hy => h y (List.mem_cons_of_mem _ hy)) fun y hy => by
      rcases List.mem_append.1 hy with z | z
      · exact hs y z
      · rw [List.mem_singleton.1 z]; exact hx]
theorem chk_ren {p q : Pr} {f t : ByteArray} (h : A.rename p f t = (q, 0)) : (chk q).2 = (chk p).2 ∧ (chk q).1 = (chk p).1.map (renP f t) := by
  obtain ⟨hv, hnt, hf, hoc, rfl⟩ := A.rename_parts h
  obtain ⟨-, hp2, hp3, hp4⟩ := A.val_parts hv
  have hw := A.walk_full hp4
  unfold occurs at hoc
  rw [Bool.or_eq_false_iff] at hoc
  obtain ⟨hoc1, hoc2⟩ := hoc
  have hq : ∀ q ∈ p.params, q.name ≠ t := fun q hq hz => by
    have : p.params.any (fun q => decide (q.name = t)) = true := List.any_eq_true.2 ⟨q, hq, decide_eq_true hz⟩
    rw [hoc1] at this; cases this
  have hsay : ∀ v ∈ preB p.body 1, V.says t v = false := fun v hvm => by
    cases hz : V.says t v
    · rfl
    · have : (walk p).any (V.says t) = true := List.any_eq_true.2 ⟨v, by rw [hw]; exact hvm, hz⟩
      rw [hoc2] at this; cases this
  obtain ⟨hfn, hfo⟩ := A.declared hv hf
  have hvq : valE (ren f t p) = valE p := A.val_ren hfn hnt p hq
  have hbq : anyB (ren f t p) = anyB p := by
    unfold anyB ren
    rw [List.any_map]; rfl
  have hnames : ∀ x ∈ names p, x ≠ t := fun x hx hz => by
    have h1 := (A.declared hv hx).2
    subst hz
    unfold occurs at h1
    rw [hoc1, hoc2] at h1; cases h1
  have hrq : rep [] (names (ren f t p)) = rep [] (names p) := by
    rw [A.names_ren]
    exact rep_ren (names p) [] hnames (fun x hx => nomatch hx)
  have h0 : Rn f t cx0 cx0 := ⟨fun _ _ => rfl, fun _ _ => rfl, rfl⟩
  obtain ⟨k1, k2⟩ := ckB_ren p.body 1 (decls_ren p.params h0 hq) hsay
  obtain ⟨k3, k4⟩ := lst_ren k1 k2 (names_said p.body 1 hsay)
  have k3' : (run (ren f t p)).2 = (run p).2 := k3
  have k4' : (run (ren f t p)).1.decl = (run p).1.decl.map (renP f t) := k4.decl
  have HV : ¬ (valE p ≠ 0) := fun z => z hv
  unfold chk
  rw [hvq, hbq, hrq, k3']
  simp only [if_neg HV]
  cases anyB p
  · cases rep [] (names p)
    · by_cases hz : (run p).2 = 0
      · have HZ : ¬ ((run p).2 ≠ 0) := fun z => z hz
        simp only [if_neg HZ]
        exact ⟨rfl, k4'⟩
      · simp only [if_pos hz]
        exact ⟨trivial, rfl⟩
    · exact ⟨rfl, rfl⟩
  · exact ⟨rfl, rfl⟩
end
end Go.Proofs.YtgjnddjpinhkgaaDoor.Y
