/-
  Declarations of texts that lie merged: what further laws need of YPlain.
-/
import Derived.Test.YtgjnddjpinhkgaaDoorQYPlain
import Derived.Test.YtgjnddjpinhkgaaDoorQYProc
namespace Go.Proofs.YtgjnddjpinhkgaaDoor.Y
open A (Ex St Pm Pr V arity vE vEs nodeE absent)
theorem ty_leaf (f : Env) {o n : Int} {s : ByteArray} {l : List Ex} {d : Nat} (h : vE (.mk o n s l) d = 0) (ha : arity o = 0) :
    l = [] ∧ tyE f (.mk o n s l) = if o = 3 then tyV f s else if o = 2 then (2, 0) else (1, 0) := by
  obtain ⟨h1, h2⟩ := vE_open h
  obtain ⟨-, h3, -⟩ := node_open h1
  have hl : l = [] := len0 (h3.trans ha)
  subst hl
  refine ⟨rfl, ?_⟩
  rcases arity_cases (o := o) (by omega) with ⟨-, h4⟩ | ⟨h4, -⟩ | ⟨h4, -⟩
  · rw [tyE, tyEs]
    rcases h4 with rfl | rfl | rfl | rfl | rfl | rfl <;> rfl
  · omega
  · omega
/-! ### more variables -/
end Go.Proofs.YtgjnddjpinhkgaaDoor.Y
