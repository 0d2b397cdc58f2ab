/-
  Plain mathematics of layer 11, without the program: the program's check and the specification's agree on well-formed statements whose names are declared once; what holds behind it.
-/
import Derived.Test.YtlebflphgeolfaaDoorQYCheck
namespace Go.Proofs.YtlebflphgeolfaaDoor.Y
open A (Ex St Pm Pr V arity vE vEs nodeE absent Good stE preE preEs preR preS preB walk names valE uA uB uN uM uD uE badS)

structure Inv (c : Cx) (vs : List Pm) (ls D : List ByteArray) : Prop where
  vis : c.vis = look vs
  loop : ∀ x ∈ vs.map Pm.name, (c.loops x = true ↔ x ∈ ls)
  sub : ∀ x ∈ ls, x ∈ vs.map Pm.name
  nd : (vs.map Pm.name ++ D).Nodup
  free : ∀ x ∈ D, c.loops x = false
  rng : ∀ p ∈ vs, 1 ≤ p.ty ∧ p.ty ≤ 3
structure Aft (c c' : Cx) (vs ds : List Pm) (D : List ByteArray) (w : List V) : Prop where
  loops : ∀ x, c'.loops x = true → c.loops x = true ∨ x ∈ D
  keeps : ∀ x, c.loops x = true → c'.loops x = true
  decl : c'.decl = c.decl ++ ds
  names : ds.map Pm.name = D
  ok : ∀ g, Has g (vs ++ ds) → ∀ v ∈ w, okV g v
  vars : ∀ out, Has (look out) vs → (out.map Pm.name ++ D).Nodup → vaF out w = out ++ ds
theorem Has.left {g : Env} {a b : List Pm} (h : Has g (a ++ b)) : Has g a := fun p hp => h p (List.mem_append.2 (Or.inl hp))
theorem Has.right {g : Env} {a b : List Pm} (h : Has g (a ++ b)) : Has g b := fun p hp => h p (List.mem_append.2 (Or.inr hp))
theorem nd_left {α : Type} {a b c : List α} (h : (a ++ (b ++ c)).Nodup) : (a ++ b).Nodup := by
  rw [← List.append_assoc] at h; exact (List.nodup_append.1 h).1
theorem nd_skip {α : Type} {a b c : List α} (h : (a ++ (b ++ c)).Nodup) : (a ++ c).Nodup := by
  rw [List.nodup_append] at h ⊢
  obtain ⟨h1, h2, h3⟩ := h
  exact ⟨h1, (List.nodup_append.1 h2).2.1, fun x hx y hy => h3 x hx y (List.mem_append.2 (Or.inr hy))⟩
theorem nd_apart {α : Type} {a b : List α} (h : (a ++ b).Nodup) {x : α} (hx : x ∈ b) : x ∉ a := fun ha => (List.nodup_append.1 h).2.2 x ha x hx rfl
theorem nd_mid {α : Type} {a b c : List α} (h : (a ++ (b ++ c)).Nodup) {x : α} (hx : x ∈ c) : x ∉ b := nd_apart (List.nodup_append.1 h).2.1 hx

theorem Inv.body {c : Cx} {vs : List Pm} {ls D E : List ByteArray} (h : Inv c vs ls (D ++ E)) : Inv c vs ls D :=
  ⟨h.vis, h.loop, h.sub, nd_left h.nd, fun x hx => h.free x (List.mem_append.2 (Or.inl hx)), h.rng⟩
theorem Inv.after {c c' : Cx} {vs ds : List Pm} {ls D E : List ByteArray} {w : List V} (h : Inv c vs ls (D ++ E)) (ha : Aft c c' vs ds D w) (hv : c'.vis = look vs) : Inv c' vs ls E :=
  ⟨hv, fun x hx => ⟨fun hl => (h.loop x hx).1 ((ha.loops x hl).resolve_right fun hd => nd_apart (nd_left h.nd) hd hx), fun hl => ha.keeps x ((h.loop x hx).2 hl)⟩, h.sub, nd_skip h.nd,
    fun x hx => by
      cases hc : c'.loops x with
      | false => rfl
      | true =>
        rcases ha.loops x hc with h1 | h1
        · rw [h.free x (List.mem_append.2 (Or.inr hx))] at h1; cases h1
        · exact absurd h1 (nd_mid h.nd hx), h.rng⟩
theorem lst_bad {r : Cx × Int} {l : List St} (h0 : r.2 ≠ 0) : lst r l = r := by unfold lst; rw [if_pos h0]
end Go.Proofs.YtlebflphgeolfaaDoor.Y
