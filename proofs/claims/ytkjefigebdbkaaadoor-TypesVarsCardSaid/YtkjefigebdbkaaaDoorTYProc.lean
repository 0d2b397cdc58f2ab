/-
  Plain mathematics of layer 11, without the program: procedures; renaming a variable.
-/
import Derived.Test.YtkjefigebdbkaaaDoorTYMain
namespace Go.Proofs.YtkjefigebdbkaaaDoor.Y
open A (Ex St Pm Pr V arity vE vEs nodeE absent Good stE preE preEs preR preS preB walk names valE swap nam occurs)

/-- is a name twice in the list -/
def rep (seen : List ByteArray) : List ByteArray → Bool
  | [] => false
  | x :: r => isIn x seen || rep (seen ++ [x]) r
theorem rep_iff : ∀ (l seen : List ByteArray), rep seen l = false ↔ (∀ x ∈ l, x ∉ seen) ∧ l.Nodup
  | [], seen => by rw [rep]; simp
  | x :: r, seen => by
    rw [rep, Bool.or_eq_false_iff, isIn_no, rep_iff r, List.nodup_cons]
    constructor
    · rintro ⟨h1, h2, h3⟩
      refine ⟨fun y hy => ?_, fun hx => ?_, h3⟩
      · rcases List.mem_cons.1 hy with rfl | hy
        · exact h1
        · exact fun z => h2 y hy (List.mem_append.2 (Or.inl z))
      · exact h2 x hx (by simp)
    · rintro ⟨h1, h2, h3⟩
      refine ⟨h1 x (by simp), fun y hy hs => ?_, h3⟩
      rcases List.mem_append.1 hs with h | h
      · exact h1 y (List.mem_cons_of_mem _ hy) h
      · exact h2 (List.mem_singleton.1 h ▸ hy)
theorem rep_nil {l : List ByteArray} : rep [] l = false ↔ l.Nodup := by rw [rep_iff]; simp
def anyB (p : Pr) : Bool := p.params.any fun q => decide (q.ty = 3)
def cx0 : Cx := ⟨fun _ => none, fun _ => false, []⟩
def Cx.decls (c : Cx) : List Pm → Cx
  | [] => c
  | q :: r => (c.declare q.name q.ty).decls r
def run (p : Pr) : Cx × Int := lst (ckB (cx0.decls p.params) p.body) p.body
/-- what check returns -/
def chk (p : Pr) : List Pm × Int :=
  if valE p ≠ 0 then ([], valE p) else if anyB p then ([], 10) else if rep [] (names p) then ([], 8)
  else if (run p).2 ≠ 0 then ([], (run p).2) else ((run p).1.decl, 0)
def chkR (p : Pr) : Int :=
  if valE p ≠ 0 then valE p else if anyB p then 10 else if rep [] (names p) then 8 else rfB p.params [] p.body

theorem decls_is : ∀ (l : List Pm) (c : Cx) (vs : List Pm), c.vis = look vs → (vs.map Pm.name ++ l.map Pm.name).Nodup →
    (c.decls l).vis = look (vs ++ l) ∧ (c.decls l).loops = c.loops ∧ (c.decls l).decl = c.decl ++ l
  | [], c, vs, h, _ => by rw [Cx.decls]; simp [h]
  | q :: r, c, vs, h, hn => by
    rw [Cx.decls]
    have hq : q.name ∉ vs.map Pm.name := nd_apart hn (by simp)
    have hv : (c.declare q.name q.ty).vis = look (vs ++ [q]) := by
      show put c.vis q.name q.ty = _
      rw [h, put_look hq]
    have hn2 : ((vs ++ [q]).map Pm.name ++ r.map Pm.name).Nodup := by
      rw [List.map_append, List.append_assoc]; exact hn
    obtain ⟨h1, h2, h3⟩ := decls_is r _ (vs ++ [q]) hv hn2
    refine ⟨by rw [h1, List.append_assoc]; rfl, h2, ?_⟩
    rw [h3]
    show c.decl ++ [q] ++ r = _
    rw [List.append_assoc]; rfl
theorem parF_ty : ∀ (l : List Pm) (seen : List ByteArray), A.parF seen l = 0 → ∀ q ∈ l, 1 ≤ q.ty ∧ q.ty ≤ 3
  | p :: r, seen, h, q, hq => by
    rw [A.parF] at h
    cases h1 : nam p.name
    · rw [if_pos h1] at h; cases h
    · rw [if_neg (by rw [h1]; decide)] at h
      by_cases h2 : p.ty < 1 ∨ 3 < p.ty
      · rw [if_pos h2] at h; cases h
      · rw [if_neg h2] at h
        split at h
        · cases h
        · rcases List.mem_cons.1 hq with rfl | h3
          · omega
          · exact parF_ty r _ h q h3
theorem par_ty {l : List Pm} (h : A.parE l = 0) : ∀ q ∈ l, 1 ≤ q.ty ∧ q.ty ≤ 3 := by
  unfold A.parE at h
  by_cases h6 : 6 < l.length
  · rw [if_pos h6] at h; cases h
  · rw [if_neg h6] at h; exact parF_ty l [] h
theorem names_is {p : Pr} (h : valE p = 0) : names p = p.params.map Pm.name ++ dB p.body := by
  obtain ⟨-, -, -, h4⟩ := A.val_parts h
  unfold names
  rw [A.walk_full h4, dB_walk]
structure Chk (p : Pr) : Prop where
  nd : (names p).Nodup
  val : valE p = 0
  sco : scB (p.params.map Pm.name) [] p.body = true
  names : (chk p).1.map Pm.name = names p
  ok : ∀ v ∈ walk p, okV (look (chk p).1) v
  vars : vaF p.params (walk p) = (chk p).1
  pre : ∃ ds, (chk p).1 = p.params ++ ds
theorem chk_main (p : Pr) : (chk p).2 = chkR p ∧ ((chk p).2 = 0 → Chk p) := by
  by_cases hv : valE p = 0
  · cases hb : anyB p
    · cases hr : rep [] (names p)
      · obtain ⟨-, hp2, hp3, hp4⟩ := A.val_parts hv
        have hnd : (names p).Nodup := rep_nil.1 hr
        have hnd0 := hnd
        rw [names_is hv] at hnd
        obtain ⟨d1, d2, d3⟩ := decls_is p.params cx0 [] rfl (by rw [List.map_nil, List.nil_append]; exact (List.nodup_append.1 hnd).1)
        rw [List.nil_append] at d1
        have d3' : (cx0.decls p.params).decl = p.params := d3
        have hi : Inv (cx0.decls p.params) p.params [] (dB p.body) :=
          ⟨d1, fun x _ => by rw [d2]; exact ⟨fun z => (nomatch z), fun z => (nomatch z)⟩, fun x hx => (nomatch hx), hnd, fun x _ => by rw [d2]; rfl, par_ty hp2⟩
        have hw := A.walk_full hp4
        have hg : gB p.body := gB_of p.body 1 fun s d hm => A.first_each hp3 s d (by rw [hw]; exact hm)
        obtain ⟨q1, q2⟩ := main_B p.body 1 hg hi
        have hrun : (run p).2 = (ckB (cx0.decls p.params) p.body).2 := lst_err _ _
        have hc2 : (chk p).2 = (run p).2 := by
          unfold chk
          rw [if_neg (fun z => z hv), if_neg (by rw [hb]; decide), if_neg (by rw [hr]; decide)]
          by_cases hz : (run p).2 = 0
          · rw [if_neg (fun z => z hz), hz]
          · rw [if_pos hz]
        refine ⟨?_, fun hz => ?_⟩
        · rw [hc2, hrun, q1]
          unfold chkR
          rw [if_neg (fun z => z hv), if_neg (by rw [hb]; decide), if_neg (by rw [hr]; decide)]
        · have hz1 : (run p).2 = 0 := hc2 ▸ hz
          have hz2 := hrun ▸ hz1
          obtain ⟨⟨es, he, hves⟩, q3, ds, A1⟩ := q2 hz2
          have hds : ds.map Pm.name = dB p.body := A1.names
          have hc1 : (chk p).1 = p.params ++ ds := by
            unfold chk
            rw [if_neg (fun z => z hv), if_neg (by rw [hb]; decide), if_neg (by rw [hr]; decide), if_neg (fun z => z hz1)]
            show (run p).1.decl = _
            unfold run
            rw [lst_is hz2 hves he hi.nd]
            show (ckB (cx0.decls p.params) p.body).1.decl = _
            rw [A1.decl, d3']
          have hnm : (p.params ++ ds).map Pm.name = names p := by rw [List.map_append, hds, names_is hv]
          have hnd1 : ((p.params ++ ds).map Pm.name).Nodup := by rw [hnm]; exact hnd0
          refine ⟨hnd0, hv, q3, by rw [hc1, hnm], ?_, ?_, ds, hc1⟩
          · rw [hc1, hw]
            exact A1.ok _ (Has.of hnd1 fun p hp => hp)
          · rw [hc1, hw]
            exact A1.vars p.params (Has.of (List.nodup_append.1 hnd).1 fun p hp => hp) hnd
      · have h1 : chk p = ([], 8) := by unfold chk; rw [if_neg (fun z => z hv), if_neg (by rw [hb]; decide), if_pos hr]
        have h2 : chkR p = 8 := by unfold chkR; rw [if_neg (fun z => z hv), if_neg (by rw [hb]; decide), if_pos hr]
        rw [h1, h2]; exact ⟨rfl, fun z => (nomatch z)⟩
    · have h1 : chk p = ([], 10) := by unfold chk; rw [if_neg (fun z => z hv), if_pos hb]
      have h2 : chkR p = 10 := by unfold chkR; rw [if_neg (fun z => z hv), if_pos hb]
      rw [h1, h2]; exact ⟨rfl, fun z => (nomatch z)⟩
  · have h1 : chk p = ([], valE p) := by unfold chk; rw [if_pos hv]
    have h2 : chkR p = valE p := by unfold chkR; rw [if_pos hv]
    rw [h1, h2]; exact ⟨rfl, fun z => absurd z hv⟩
/-! ### renaming -/

def renP (f t : ByteArray) (q : Pm) : Pm := ⟨swap f t q.name, q.ty⟩
structure Rn (f t : ByteArray) (c c' : Cx) : Prop where
  vis : ∀ x, x ≠ t → c'.vis (swap f t x) = c.vis x
  loops : ∀ x, x ≠ t → c'.loops (swap f t x) = c.loops x
  decl : c'.decl = c.decl.map (renP f t)
theorem swap_inj {f t x y : ByteArray} (hx : x ≠ t) (hy : y ≠ t) : (swap f t x = swap f t y) = (x = y) := by
  have := A.swap_eq (f := f) hx hy
  rwa [decide_eq_decide, ← eq_iff_iff] at this
section
variable {f t : ByteArray}
theorem Rn.declare {c c' : Cx} (h : Rn f t c c') {x : ByteArray} (hx : x ≠ t) (ty : Int) : Rn f t (c.declare x ty) (c'.declare (swap f t x) ty) := by
  refine ⟨fun y hy => ?_, h.loops, ?_⟩
  · show put c'.vis (swap f t x) ty (swap f t y) = put c.vis x ty y
    unfold put
    rw [h.vis y hy]
    simp only [swap_inj hx hy]
  · show c'.decl ++ [_] = (c.decl ++ [_]).map _
    rw [h.decl, List.map_append]; rfl
theorem Rn.loop {c c' : Cx} (h : Rn f t c c') {x : ByteArray} (hx : x ≠ t) : Rn f t (c.loop x) (c'.loop (swap f t x)) := by
  refine ⟨(h.declare hx 1).vis, fun y hy => ?_, (h.declare hx 1).decl⟩
  show (decide (swap f t x = swap f t y) || c'.loops (swap f t y)) = (decide (x = y) || c.loops y)
  rw [h.loops y hy, A.swap_eq hx hy]
end
end Go.Proofs.YtkjefigebdbkaaaDoor.Y
