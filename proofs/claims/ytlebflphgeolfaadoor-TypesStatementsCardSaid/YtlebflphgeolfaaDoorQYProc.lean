/-
  Plain mathematics of layer 11, without the program: procedures; renaming a variable.
-/
import Derived.Test.YtlebflphgeolfaaDoorQYMain
namespace Go.Proofs.YtlebflphgeolfaaDoor.Y
open A (Ex St Pm Pr V arity vE vEs nodeE absent Good stE preE preEs preR preS preB walk names valE swap nam occurs)

/-- is a name twice in the list -/
def rep (seen : List ByteArray) : List ByteArray → Bool
  | [] => false
  | x :: r => isIn x seen || rep (seen ++ [x]) r
def anyB (p : Pr) : Bool := p.params.any fun q => decide (q.ty = 3)
def cx0 : Cx := ⟨fun _ => none, fun _ => false, []⟩
def Cx.decls (c : Cx) : List Pm → Cx
  | [] => c
  | q :: r => (c.declare q.name q.ty).decls r
def run (p : Pr) : Cx × Int := lst (ckB (cx0.decls p.params) p.body) p.body
/-- what check returns -/
def chk (p : Pr) : List Pm × Int :=
  if valE p ≠ 0 then ([], valE p) else if anyB p then ([], 10) else if rep [] (names p) then ([], 8)
  else if (run p).2 ≠ 0 then ([], (run p).2) else ((run p).1.decl, 0)
theorem parF_ty : ∀ (l : List Pm) (seen : List ByteArray), A.parF seen l = 0 → ∀ q ∈ l, 1 ≤ q.ty ∧ q.ty ≤ 3
  | p :: r, seen, h, q, hq => by
    rw [A.parF] at h
    cases h1 : nam p.name
    · rw [if_pos h1] at h; cases h
    · rw [if_neg (by rw [h1]; decide)] at h
      by_cases h2 : p.ty < 1 ∨ 3 < p.ty
      · rw [if_pos h2] at h; cases h
      · rw [if_neg h2] at h
        split at h
        · cases h
        · rcases List.mem_cons.1 hq with rfl | h3
          · omega
          · exact parF_ty r _ h q h3
theorem par_ty {l : List Pm} (h : A.parE l = 0) : ∀ q ∈ l, 1 ≤ q.ty ∧ q.ty ≤ 3 := by
  unfold A.parE at h
  by_cases h6 : 6 < l.length
  · rw [if_pos h6] at h; cases h
  · rw [if_neg h6] at h; exact parF_ty l [] h
structure Chk (p : Pr) : Prop where
  nd : (names p).Nodup
  val : valE p = 0
  sco : scB (p.params.map Pm.name) [] p.body = true
  names : (chk p).1.map Pm.name = names p
  ok : ∀ v ∈ walk p, okV (look (chk p).1) v
  vars : vaF p.params (walk p) = (chk p).1
  pre : ∃ ds, (chk p).1 = p.params ++ ds
/-! ### renaming -/

def renP (f t : ByteArray) (q : Pm) : Pm := ⟨swap f t q.name, q.ty⟩
structure Rn (f t : ByteArray) (c c' : Cx) : Prop where
  vis : ∀ x, x ≠ t → c'.vis (swap f t x) = c.vis x
  loops : ∀ x, x ≠ t → c'.loops (swap f t x) = c.loops x
  decl : c'.decl = c.decl.map (renP f t)
theorem swap_inj {f t x y : ByteArray} (hx : x ≠ t) (hy : y ≠ t) : (swap f t x = swap f t y) = (x = y) := by
  have := A.swap_eq (f := f) hx hy
  rwa [decide_eq_decide, ← eq_iff_iff] at this
section
variable {f t : ByteArray}
theorem Rn.declare {c c' : Cx} (h : Rn f t c c') {x : ByteArray} (hx : x ≠ t) (ty : Int) : Rn f t (c.declare x ty) (c'.declare (swap f t x) ty) := by
  refine ⟨fun y hy => ?_, h.loops, ?_⟩
  · show put c'.vis (swap f t x) ty (swap f t y) = put c.vis x ty y
    unfold put
    rw [h.vis y hy]
    simp only [swap_inj hx hy]
  · show c'.decl ++ [_] = (c.decl ++ [_]).map _
    rw [h.decl, List.map_append]; rfl
theorem Rn.loop {c c' : Cx} (h : Rn f t c c') {x : ByteArray} (hx : x ≠ t) : Rn f t (c.loop x) (c'.loop (swap f t x)) := by
  refine ⟨(h.declare hx 1).vis, fun y hy => ?_, (h.declare hx 1).decl⟩
  show (decide (swap f t x = swap f t y) || c'.loops (swap f t y)) = (decide (x = y) || c.loops y)
  rw [h.loops y hy, A.swap_eq hx hy]
end
end Go.Proofs.YtlebflphgeolfaaDoor.Y
