/-
  Plain mathematics of layer 11, without the program: procedures; renaming a variable.
-/
import Derived.Test.YtnelpgeiioflmaaGreatDoorSYMain
namespace Go.Proofs.YtnelpgeiioflmaaGreatDoor.Y
open A (Ex St Pm Pr V arity vE vEs nodeE absent Good stE preE preEs preR preS preB walk names valE renE renEs renS renB ren swap nam occurs)

def rep (seen : List ByteArray) : List ByteArray → Bool
  | [] => false
  | x :: r => isIn x seen || rep (seen ++ [x]) r
theorem rep_iff : ∀ (l seen : List ByteArray), rep seen l = false ↔ (∀ x ∈ l, x ∉ seen) ∧ l.Nodup
  | [], seen => by rw [rep]; simp
  | x :: r, seen => by
    rw [rep, Bool.or_eq_false_iff, isIn_no, rep_iff r, List.nodup_cons]
    constructor
    · rintro ⟨h1, h2, h3⟩
      refine ⟨fun y hy => ?_, fun hx => ?_, h3⟩
      · rcases List.mem_cons.1 hy with rfl | hy
        · exact h1
        · exact fun z => h2 y hy (List.mem_append.2 (Or.inl z))
      · exact h2 x hx (by simp)
    · rintro ⟨h1, h2, h3⟩
      refine ⟨h1 x (by simp), fun y hy hs => ?_, h3⟩
      rcases List.mem_append.1 hs with h | h
      · exact h1 y (List.mem_cons_of_mem _ hy) h
      · exact h2 (List.mem_singleton.1 h ▸ hy)
theorem rep_nil {l : List ByteArray} : rep [] l = false ↔ l.Nodup := by rw [rep_iff]; simp
def anyB (p : Pr) : Bool := p.params.any fun q => decide (q.ty = 3)
def cx0 : Cx := ⟨fun _ => none, fun _ => false, []⟩
def Cx.decls (c : Cx) : List Pm → Cx
  | [] => c
  | q :: r => (c.declare q.name q.ty).decls r
def run (p : Pr) : Cx × Int := lst (ckB (cx0.decls p.params) p.body) p.body
def chk (p : Pr) : List Pm × Int :=
  if valE p ≠ 0 then ([], valE p) else if anyB p then ([], 10) else if rep [] (names p) then ([], 8)
  else if (run p).2 ≠ 0 then ([], (run p).2) else ((run p).1.decl, 0)
def chkR (p : Pr) : Int :=
  if valE p ≠ 0 then valE p else if anyB p then 10 else if rep [] (names p) then 8 else rfB p.params [] p.body

theorem decls_is : ∀ (l : List Pm) (c : Cx) (vs : List Pm), c.vis = look vs → (vs.map Pm.name ++ l.map Pm.name).Nodup →
    (c.decls l).vis = look (vs ++ l) ∧ (c.decls l).loops = c.loops ∧ (c.decls l).decl = c.decl ++ l
  | [], c, vs, h, _ => by rw [Cx.decls]; simp [h]
  | q :: r, c, vs, h, hn => by
    rw [Cx.decls]
    have hq : q.name ∉ vs.map Pm.name := nd_apart hn (by simp)
    have hv : (c.declare q.name q.ty).vis = look (vs ++ [q]) := by
      show put c.vis q.name q.ty = _
      rw [h, put_look hq]
    have hn2 : ((vs ++ [q]).map Pm.name ++ r.map Pm.name).Nodup := by
      rw [List.map_append, List.append_assoc]; exact hn
    obtain ⟨h1, h2, h3⟩ := decls_is r _ (vs ++ [q]) hv hn2
    refine ⟨by rw [h1, List.append_assoc]; rfl, h2, ?_⟩
    rw [h3]
    show c.decl ++ [q] ++ r = _
    rw [List.append_assoc]; rfl
theorem parF_ty : ∀ (l : List Pm) (seen : List ByteArray), A.parF seen l = 0 → ∀ q ∈ l, 1 ≤ q.ty ∧ q.ty ≤ 3
  | p :: r, seen, h, q, hq => by
    rw [A.parF] at h
    cases h1 : nam p.name
    · rw [if_pos h1] at h; cases h
    · rw [if_neg (by rw [h1]; decide)] at h
      by_cases h2 : p.ty < 1 ∨ 3 < p.ty
      · rw [if_pos h2] at h; cases h
      · rw [if_neg h2] at h
        split at h
        · cases h
        · rcases List.mem_cons.1 hq with rfl | h3
          · omega
          · exact parF_ty r _ h q h3
theorem par_ty {l : List Pm} (h : A.parE l = 0) : ∀ q ∈ l, 1 ≤ q.ty ∧ q.ty ≤ 3 := by
  unfold A.parE at h
  by_cases h6 : 6 < l.length
  · rw [if_pos h6] at h; cases h
  · rw [if_neg h6] at h; exact parF_ty l [] h
theorem names_is {p : Pr} (h : valE p = 0) : names p = p.params.map Pm.name ++ dB p.body := by
  obtain ⟨-, -, -, h4⟩ := A.val_parts h
  unfold names
  rw [A.walk_full h4, dB_walk]
structure Chk (p : Pr) : Prop where
  nd : (names p).Nodup
  val : valE p = 0
  sco : scB (p.params.map Pm.name) [] p.body = true
  names : (chk p).1.map Pm.name = names p
  ok : ∀ v ∈ walk p, okV (look (chk p).1) v
  vars : vaF p.params (walk p) = (chk p).1
  pre : ∃ ds, (chk p).1 = p.params ++ ds
theorem chk_main (p : Pr) : (chk p).2 = chkR p ∧ ((chk p).2 = 0 → Chk p) := by
  by_cases hv : valE p = 0
  · cases hb : anyB p
    · cases hr : rep [] (names p)
      · obtain ⟨-, hp2, hp3, hp4⟩ := A.val_parts hv
        have hnd : (names p).Nodup := rep_nil.1 hr
        have hnd0 := hnd
        rw [names_is hv] at hnd
        obtain ⟨d1, d2, d3⟩ := decls_is p.params cx0 [] rfl (by rw [List.map_nil, List.nil_append]; exact (List.nodup_append.1 hnd).1)
        rw [List.nil_append] at d1
        have d3' : (cx0.decls p.params).decl = p.params := d3
        have hi : Inv (cx0.decls p.params) p.params [] (dB p.body) :=
          ⟨d1, fun x _ => by rw [d2]; exact ⟨fun z => (nomatch z), fun z => (nomatch z)⟩, fun x hx => (nomatch hx), hnd, fun x _ => by rw [d2]; rfl, par_ty hp2⟩
        have hw := A.walk_full hp4
        have hg : gB p.body := gB_of p.body 1 fun s d hm => A.first_each hp3 s d (by rw [hw]; exact hm)
        obtain ⟨q1, q2⟩ := main_B p.body 1 hg hi
        have hrun : (run p).2 = (ckB (cx0.decls p.params) p.body).2 := lst_err _ _
        have hc2 : (chk p).2 = (run p).2 := by
          unfold chk
          rw [if_neg (fun z => z hv), if_neg (by rw [hb]; decide), if_neg (by rw [hr]; decide)]
          by_cases hz : (run p).2 = 0
          · rw [if_neg (fun z => z hz), hz]
          · rw [if_pos hz]
        refine ⟨?_, fun hz => ?_⟩
        · rw [hc2, hrun, q1]
          unfold chkR
          rw [if_neg (fun z => z hv), if_neg (by rw [hb]; decide), if_neg (by rw [hr]; decide)]
        · have hz1 : (run p).2 = 0 := hc2 ▸ hz
          have hz2 := hrun ▸ hz1
          obtain ⟨⟨es, he, hves⟩, q3, ds, A1⟩ := q2 hz2
          have hds : ds.map Pm.name = dB p.body := A1.names
          have hc1 : (chk p).1 = p.params ++ ds := by
            unfold chk
            rw [if_neg (fun z => z hv), if_neg (by rw [hb]; decide), if_neg (by rw [hr]; decide), if_neg (fun z => z hz1)]
            show (run p).1.decl = _
            unfold run
            rw [lst_is hz2 hves he hi.nd]
            show (ckB (cx0.decls p.params) p.body).1.decl = _
            rw [A1.decl, d3']
          have hnm : (p.params ++ ds).map Pm.name = names p := by rw [List.map_append, hds, names_is hv]
          have hnd1 : ((p.params ++ ds).map Pm.name).Nodup := by rw [hnm]; exact hnd0
          refine ⟨hnd0, hv, q3, by rw [hc1, hnm], ?_, ?_, ds, hc1⟩
          · rw [hc1, hw]
            exact A1.ok _ (Has.of hnd1 fun p hp => hp)
          · rw [hc1, hw]
            exact A1.vars p.params (Has.of (List.nodup_append.1 hnd).1 fun p hp => hp) hnd
      · have h1 : chk p = ([], 8) := by unfold chk; rw [if_neg (fun z => z hv), if_neg (by rw [hb]; decide), if_pos hr]
        have h2 : chkR p = 8 := by unfold chkR; rw [if_neg (fun z => z hv), if_neg (by rw [hb]; decide), if_pos hr]
        rw [h1, h2]; exact ⟨rfl, fun z => (nomatch z)⟩
    · have h1 : chk p = ([], 10) := by unfold chk; rw [if_neg (fun z => z hv), if_pos hb]
      have h2 : chkR p = 10 := by unfold chkR; rw [if_neg (fun z => z hv), if_pos hb]
      rw [h1, h2]; exact ⟨rfl, fun z => (nomatch z)⟩
  · have h1 : chk p = ([], valE p) := by unfold chk; rw [if_pos hv]
    have h2 : chkR p = valE p := by unfold chkR; rw [if_pos hv]
    rw [h1, h2]; exact ⟨rfl, fun z => absurd z hv⟩
/-! ### renaming -/

def renP (f t : ByteArray) (q : Pm) : Pm := ⟨swap f t q.name, q.ty⟩
structure Rn (f t : ByteArray) (c c' : Cx) : Prop where
  vis : ∀ x, x ≠ t → c'.vis (swap f t x) = c.vis x
  loops : ∀ x, x ≠ t → c'.loops (swap f t x) = c.loops x
  decl : c'.decl = c.decl.map (renP f t)
theorem swap_inj {f t x y : ByteArray} (hx : x ≠ t) (hy : y ≠ t) : (swap f t x = swap f t y) = (x = y) := by
  have := A.swap_eq (f := f) hx hy
  rwa [decide_eq_decide, ← eq_iff_iff] at this
section
variable {f t : ByteArray}
theorem tyV_ren {g g' : Env} (h : ∀ x, x ≠ t → g' (swap f t x) = g x) {s : ByteArray} (hs : s ≠ t) : tyV g' (swap f t s) = tyV g s := by unfold tyV; rw [h s hs]
mutual
theorem ty_ren {g g' : Env} (h : ∀ x, x ≠ t → g' (swap f t x) = g x) : ∀ (e : Ex) (r : Bool), (∀ v ∈ preE e r, V.says t v = false) → tyE g' (renE f t e) = tyE g e
  | .mk o n s l, r, hs => by
    rw [preE] at hs
    rw [renE]
    by_cases ho : o = 3
    · have h1 := hs _ List.mem_cons_self
      have h2 : s ≠ t := fun z => by
        have h3 : (decide (o = 3) && decide (s = t)) = false := h1
        rw [decide_eq_true ho, decide_eq_true z] at h3; cases h3
      rw [if_pos ho, tyE, tyE, if_pos ho, if_pos ho, tyV_ren h h2]
    · rw [ty_node g' ho, ty_node g ho, tys_ren h l fun v hv => hs v (List.mem_cons_of_mem _ hv)]
theorem tys_ren {g g' : Env} (h : ∀ x, x ≠ t → g' (swap f t x) = g x) : ∀ (l : List Ex), (∀ v ∈ preEs l, V.says t v = false) → tyEs g' (renEs f t l) = tyEs g l
  | [], _ => by rw [renEs, tyEs, tyEs]
  | e :: r, hs => by
    rw [preEs] at hs
    rw [renEs, tyEs, tyEs, ty_ren h e false fun v hv => hs v (List.mem_append.2 (Or.inl hv)), tys_ren h r fun v hv => hs v (List.mem_append.2 (Or.inr hv))]
end
theorem ty_renR {g g' : Env} (h : ∀ x, x ≠ t → g' (swap f t x) = g x) {e : Ex} (hs : ∀ v ∈ preR e, V.says t v = false) : tyE g' (renE f t e) = tyE g e := by
  cases ha : absent e
  · unfold preR at hs
    rw [ha, if_neg (by decide)] at hs
    exact ty_ren h e true hs
  · rw [ty_absent g ha, ty_absent g' (by rw [A.ren_absent]; exact ha)]
theorem Rn.declare {c c' : Cx} (h : Rn f t c c') {x : ByteArray} (hx : x ≠ t) (ty : Int) : Rn f t (c.declare x ty) (c'.declare (swap f t x) ty) := by
  refine ⟨fun y hy => ?_, h.loops, ?_⟩
  · show put c'.vis (swap f t x) ty (swap f t y) = put c.vis x ty y
    unfold put
    rw [h.vis y hy]
    simp only [swap_inj hx hy]
  · show c'.decl ++ [_] = (c.decl ++ [_]).map _
    rw [h.decl, List.map_append]; rfl
theorem Rn.loop {c c' : Cx} (h : Rn f t c c') {x : ByteArray} (hx : x ≠ t) : Rn f t (c.loop x) (c'.loop (swap f t x)) := by
  refine ⟨(h.declare hx 1).vis, fun y hy => ?_, (h.declare hx 1).decl⟩
  show (decide (swap f t x = swap f t y) || c'.loops (swap f t y)) = (decide (x = y) || c.loops y)
  rw [h.loops y hy, A.swap_eq hx hy]
theorem del_ren {g g' : Env} (h : ∀ x, x ≠ t → g' (swap f t x) = g x) {x : ByteArray} (hx : x ≠ t) : ∀ y, y ≠ t → del g' (swap f t x) (swap f t y) = del g x y := fun y hy => by
  unfold del
  rw [h y hy]
  simp only [swap_inj hx hy]
theorem op_ren (s : St) : (renS f t s).op = s.op := by obtain ⟨o, nm, mx, a, b, bd, el⟩ := s; rw [renS]; rfl
theorem name_ren (s : St) : (renS f t s).name = swap f t s.name := by obtain ⟨o, nm, mx, a, b, bd, el⟩ := s; rw [renS]; rfl
theorem dels_ren : ∀ (l : List St) {g g' : Env}, (∀ x, x ≠ t → g' (swap f t x) = g x) → (∀ s ∈ l, s.name ≠ t) → ∀ y, y ≠ t → dels g' (renB f t l) (swap f t y) = dels g l y
  | [], g, g', h, _ => by rw [renB, dels, dels]; exact h
  | s :: r, g, g', h, hs => by
    rw [renB, dels, dels, op_ren, name_ren]
    by_cases h1 : s.op = 1
    · rw [if_pos h1, if_pos h1]; exact dels_ren r (del_ren h (hs s (by simp))) fun x hx => hs x (List.mem_cons_of_mem _ hx)
    · rw [if_neg h1, if_neg h1]; exact dels_ren r h fun x hx => hs x (List.mem_cons_of_mem _ hx)
theorem asg_ren {c c' : Cx} (h : Rn f t c c') {x : ByteArray} (hx : x ≠ t) (ty : Int) : c'.asg (swap f t x) ty = c.asg x ty := by
  unfold Cx.asg
  rw [h.vis x hx, h.loops x hx]
theorem names_said : ∀ (l : List St) (d : Nat), (∀ v ∈ preB l d, V.says t v = false) → ∀ s ∈ l, s.name ≠ t
  | s :: r, d, h, x, hx => by
    rw [preB] at h
    rcases List.mem_cons.1 hx with rfl | hx
    · obtain ⟨o, nm, mx, a, b, bd, el⟩ := x
      rw [preS] at h
      have h1 : decide (nm = t) = false := h (V.st (.mk o nm mx a b bd el) d) (by simp)
      exact of_decide_eq_false h1
    · exact names_said r d (fun v hv => h v (List.mem_append.2 (Or.inr hv))) x hx
theorem lst_ren {r r' : Cx × Int} (h1 : r'.2 = r.2) (h2 : Rn f t r.1 r'.1) {l : List St} (hl : ∀ s ∈ l, s.name ≠ t) : (lst r' (renB f t l)).2 = (lst r l).2 ∧ Rn f t (lst r l).1 (lst r' (renB f t l)).1 := by
  unfold lst
  by_cases h : r.2 = 0
  · have H1 : ¬ (r.2 ≠ 0) := fun z => z h
    have H2 : ¬ (r'.2 ≠ 0) := fun z => z (h1.trans h)
    rw [if_neg H1, if_neg H2]
    exact ⟨rfl, dels_ren l h2.vis hl, h2.loops, h2.decl⟩
  · rw [if_pos h, if_pos (fun z => h (h1 ▸ z))]
    exact ⟨h1, h2⟩
mutual
theorem ckS_ren : ∀ (s : St) (d : Nat) {c c' : Cx}, Rn f t c c' → (∀ v ∈ preS s d, V.says t v = false) → (ckS c' (renS f t s)).2 = (ckS c s).2 ∧ Rn f t (ckS c s).1 (ckS c' (renS f t s)).1
  | .mk o nm mx a b bd el, d, c, c', h, hs => by
    rw [preS] at hs
    have hn : nm ≠ t := of_decide_eq_false (hs (V.st (.mk o nm mx a b bd el) d) (by simp) : decide (nm = t) = false)
    have ha := ty_renR h.vis (e := a) fun v hv => hs v (by simp [hv])
    have hb := ty_renR h.vis (e := b) fun v hv => hs v (by simp [hv])
    have hbd : ∀ v ∈ preB bd (d + 1), V.says t v = false := fun v hv => hs v (by simp [hv])
    have hel : ∀ v ∈ preB el (d + 1), V.says t v = false := fun v hv => hs v (by simp [hv])
    rw [renS, ckS, ckS, ha, hb]
    by_cases h1 : (tyE c.vis a).2 = 0
    case neg => rw [if_pos h1, if_pos h1]; exact ⟨rfl, h⟩
    have H1 : ¬ ((tyE c.vis a).2 ≠ 0) := fun z => z h1
    rw [if_neg H1, if_neg H1]
    by_cases h2 : (tyE c.vis b).2 = 0
    case neg => rw [if_pos h2, if_pos h2]; exact ⟨rfl, h⟩
    have H2 : ¬ ((tyE c.vis b).2 ≠ 0) := fun z => z h2
    rw [if_neg H2, if_neg H2]
    by_cases o1 : o = 1
    · rw [if_pos o1, if_pos o1]; exact ⟨rfl, h.declare hn _⟩
    rw [if_neg o1, if_neg o1]
    by_cases o2 : o = 2
    · rw [if_pos o2, if_pos o2]; exact ⟨asg_ren h hn _, h⟩
    rw [if_neg o2, if_neg o2]
    by_cases o3 : o = 3
    · rw [if_pos o3, if_pos o3]; exact ⟨rfl, h⟩
    rw [if_neg o3, if_neg o3]
    by_cases o4 : o = 4
    · rw [if_pos o4, if_pos o4]; exact ⟨rfl, h⟩
    rw [if_neg o4, if_neg o4]
    by_cases o5 : o = 5
    · rw [if_pos o5, if_pos o5]
      by_cases h3 : (tyE c.vis a).1 = 3
      case neg => rw [if_pos h3, if_pos h3]; exact ⟨rfl, h⟩
      have H3 : ¬ ((tyE c.vis a).1 ≠ 3) := fun z => z h3
      rw [if_neg H3, if_neg H3]
      obtain ⟨k1, k2⟩ := ckB_ren bd (d + 1) h hbd
      obtain ⟨k3, k4⟩ := lst_ren k1 k2 (names_said bd (d + 1) hbd)
      by_cases h4 : (lst (ckB c bd) bd).2 = 0
      case neg => rw [if_pos h4, if_pos (fun z => h4 (k3 ▸ z))]; exact ⟨k3, k4⟩
      have H4 : ¬ ((lst (ckB c bd) bd).2 ≠ 0) := fun z => z h4
      have H5 : ¬ ((lst (ckB c' (renB f t bd)) (renB f t bd)).2 ≠ 0) := fun z => z (k3.trans h4)
      rw [if_neg H4, if_neg H5]
      obtain ⟨k5, k6⟩ := ckB_ren el (d + 1) k4 hel
      exact lst_ren k5 k6 (names_said el (d + 1) hel)
    rw [if_neg o5, if_neg o5]
    by_cases o6 : o = 6
    · rw [if_pos o6, if_pos o6]
      by_cases h3 : (tyE c.vis a).1 ≠ 1 ∨ (tyE c.vis b).1 ≠ 1
      · rw [if_pos h3, if_pos h3]; exact ⟨rfl, h⟩
      rw [if_neg h3, if_neg h3]
      obtain ⟨k1, k2⟩ := ckB_ren bd (d + 1) (h.loop hn) hbd
      obtain ⟨k3, k4⟩ := lst_ren k1 k2 (names_said bd (d + 1) hbd)
      exact ⟨k3, del_ren k4.vis hn, k4.loops, k4.decl⟩
    rw [if_neg o6, if_neg o6]
    by_cases o7 : o = 7
    · rw [if_pos o7, if_pos o7]; exact ⟨rfl, h⟩
    rw [if_neg o7, if_neg o7]; exact ⟨rfl, h⟩
theorem ckB_ren : ∀ (l : List St) (d : Nat) {c c' : Cx}, Rn f t c c' → (∀ v ∈ preB l d, V.says t v = false) → (ckB c' (renB f t l)).2 = (ckB c l).2 ∧ Rn f t (ckB c l).1 (ckB c' (renB f t l)).1
  | [], d, c, c', h, _ => by rw [renB, ckB, ckB]; exact ⟨rfl, h⟩
  | s :: r, d, c, c', h, hs => by
    rw [preB] at hs
    rw [renB, ckB, ckB]
    obtain ⟨k1, k2⟩ := ckS_ren s d h fun v hv => hs v (List.mem_append.2 (Or.inl hv))
    by_cases h1 : (ckS c s).2 = 0
    · have H1 : ¬ ((ckS c s).2 ≠ 0) := fun z => z h1
      have H2 : ¬ ((ckS c' (renS f t s)).2 ≠ 0) := fun z => z (k1.trans h1)
      rw [if_neg H1, if_neg H2]
      exact ckB_ren r d k2 fun v hv => hs v (List.mem_append.2 (Or.inr hv))
    · rw [if_pos h1, if_pos (fun z => h1 (k1 ▸ z))]; exact ⟨k1, k2⟩
end
theorem decls_ren : ∀ (l : List Pm) {c c' : Cx}, Rn f t c c' → (∀ q ∈ l, q.name ≠ t) → Rn f t (c.decls l) (c'.decls (l.map fun q => ⟨swap f t q.name, q.ty⟩))
  | [], c, c', h, _ => h
  | q :: r, c, c', h, hq => by
    rw [List.map_cons, Cx.decls, Cx.decls]
    exact decls_ren r (h.declare (hq q (by simp)) q.ty) fun x hx => hq x (List.mem_cons_of_mem _ hx)
theorem rep_ren : ∀ (l seen : List ByteArray), (∀ x ∈ l, x ≠ t) → (∀ x ∈ seen, x ≠ t) → rep (seen.map (swap f t)) (l.map (swap f t)) = rep seen l
  | [], _, _, _ => rfl
  | x :: r, seen, h, hs => by
    rw [List.map_cons, rep, rep]
    have hx := h x (by simp)
    have h1 : isIn (swap f t x) (seen.map (swap f t)) = isIn x seen := by
      unfold isIn
      rw [List.any_map]
      rw [Bool.eq_iff_iff, List.any_eq_true, List.any_eq_true]
      constructor
      · rintro ⟨y, hy, h2⟩; exact ⟨y, hy, by simpa [swap_inj (hs y hy) hx] using h2⟩
      · rintro ⟨y, hy, h2⟩; exact ⟨y, hy, by simpa [swap_inj (hs y hy) hx] using h2⟩
    have h2 : seen.map (swap f t) ++ [swap f t x] = (seen ++ [x]).map (swap f t) := by rw [List.map_append]; rfl
    rw [h1, h2, rep_ren r (seen ++ [x]) (fun y hy => h y (List.mem_cons_of_mem _ hy)) fun y hy => by
      rcases List.mem_append.1 hy with z | z
      · exact hs y z
      · rw [List.mem_singleton.1 z]; exact hx]
theorem chk_ren {p q : Pr} {f t : ByteArray} (h : A.rename p f t = (q, 0)) : (chk q).2 = (chk p).2 ∧ (chk q).1 = (chk p).1.map (renP f t) := by
  obtain ⟨hv, hnt, hf, hoc, rfl⟩ := A.rename_parts h
  obtain ⟨-, hp2, hp3, hp4⟩ := A.val_parts hv
  have hw := A.walk_full hp4
  unfold occurs at hoc
  rw [Bool.or_eq_false_iff] at hoc
  obtain ⟨hoc1, hoc2⟩ := hoc
  have hq : ∀ q ∈ p.params, q.name ≠ t := fun q hq hz => by
    have : p.params.any (fun q => decide (q.name = t)) = true := List.any_eq_true.2 ⟨q, hq, decide_eq_true hz⟩
    rw [hoc1] at this; cases this
  have hsay : ∀ v ∈ preB p.body 1, V.says t v = false := fun v hvm => by
    cases hz : V.says t v
    · rfl
    · have : (walk p).any (V.says t) = true := List.any_eq_true.2 ⟨v, by rw [hw]; exact hvm, hz⟩
      rw [hoc2] at this; cases this
  obtain ⟨hfn, hfo⟩ := A.declared hv hf
  have hvq : valE (ren f t p) = valE p := A.val_ren hfn hnt p hq
  have hbq : anyB (ren f t p) = anyB p := by
    unfold anyB ren
    rw [List.any_map]; rfl
  have hnames : ∀ x ∈ names p, x ≠ t := fun x hx hz => by
    have h1 := (A.declared hv hx).2
    subst hz
    unfold occurs at h1
    rw [hoc1, hoc2] at h1; cases h1
  have hrq : rep [] (names (ren f t p)) = rep [] (names p) := by
    rw [A.names_ren]
    exact rep_ren (names p) [] hnames (fun x hx => nomatch hx)
  have h0 : Rn f t cx0 cx0 := ⟨fun _ _ => rfl, fun _ _ => rfl, rfl⟩
  obtain ⟨k1, k2⟩ := ckB_ren p.body 1 (decls_ren p.params h0 hq) hsay
  obtain ⟨k3, k4⟩ := lst_ren k1 k2 (names_said p.body 1 hsay)
  have k3' : (run (ren f t p)).2 = (run p).2 := k3
  have k4' : (run (ren f t p)).1.decl = (run p).1.decl.map (renP f t) := k4.decl
  have HV : ¬ (valE p ≠ 0) := fun z => z hv
  unfold chk
  rw [hvq, hbq, hrq, k3']
  simp only [if_neg HV]
  cases anyB p
  · cases rep [] (names p)
    · by_cases hz : (run p).2 = 0
      · have HZ : ¬ ((run p).2 ≠ 0) := fun z => z hz
        simp only [if_neg HZ]
        exact ⟨rfl, k4'⟩
      · simp only [if_pos hz]
        exact ⟨trivial, rfl⟩
    · exact ⟨rfl, rfl⟩
  · exact ⟨rfl, rfl⟩
end
end Go.Proofs.YtnelpgeiioflmaaGreatDoor.Y
