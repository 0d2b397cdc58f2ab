/-
  Declarations of texts that lie merged: what further laws need of AOY.
-/
import Derived.Test.YtgjnddjpinhkgaaDoorM08
import Derived.Test.YtgjnddjpinhkgaaDoorM07
import Derived.Test.YtgjnddjpinhkgaaDoorM10
import Derived.Deep.RegionWith
import Derived.Deep.Cut
import Derived.Deep.CutRange
namespace Go.Proofs.YtgjnddjpinhkgaaDoor.A
open Go.RowKit
open L (Str isName prt size_len below_2 below_box ret_bool ret_int eql_eq bytes_eq)
/-! ### statements in rows -/
theorem info_s : (Tryd.prog.info? 56).map (fun i => (i.zero, i.size, i.bytes)) = some (some (.agg #[.int .i64 0, .string ⟨#[]⟩, .int .i64 0, .int .i64 0, .int .i64 0, .string ⟨#[]⟩, .slice none 0 0, .int .i64 0, .int .i64 0, .string ⟨#[]⟩, .slice none 0 0, .slice none 0 0, .slice none 0 0]), 13, 192) := by kernel_rfl
def kS : RowK SX where
  f := fun x => [.int .i64 x.s.op, .string x.s.name, .int .i64 x.s.mx, .int .i64 x.s.a.op, .int .i64 x.s.a.n, .string x.s.a.s, .slice x.a1 x.s.a.args.length x.c1, .int .i64 x.s.b.op, .int .i64 x.s.b.n, .string x.s.b.s, .slice x.a2 x.s.b.args.length x.c2, .slice x.a3 x.s.body.length x.c3, .slice x.a4 x.s.els.length x.c4]
  size := 13
  bytes := 192
  t := 23
  e := 56
  z := .agg #[.int .i64 0, .string ⟨#[]⟩, .int .i64 0, .int .i64 0, .int .i64 0, .string ⟨#[]⟩, .slice none 0 0, .int .i64 0, .int .i64 0, .string ⟨#[]⟩, .slice none 0 0, .slice none 0 0, .slice none 0 0]
  inn := fun Z w x => KidsF Z w x.a1 x.s.a.args ∧ KidsF Z w x.a2 x.s.b.args ∧ BodiesF Z w x.a3 x.s.body ∧ BodiesF Z w x.a4 x.s.els
  und := Tryd.underlying23
  info := info_s
  len := fun _ => rfl
  one := fun x u hu => by simp at hu; rcases hu with rfl | rfl | rfl | rfl | rfl | rfl | rfl | rfl | rfl | rfl | rfl | rfl | rfl <;> rfl
  pos := by decide
  zs := rfl
  small := by decide
  next := fun h hs => ⟨KidsF.next h.1 hs, KidsF.next h.2.1 hs, BodiesF.next h.2.2.1 hs, BodiesF.next h.2.2.2 hs⟩
theorem sts_of {W : World} {b : Nat} : ∀ (l : List SX) (i : Nat), (∀ j (h : j < l.length) r, r < 13 → W.cell? ⟨b, i + j * 13 + r, none⟩ = (kS.f l[j])[r]?) → (∀ x ∈ l, Kids W x.a1 x.s.a.args ∧ Kids W x.a2 x.s.b.args ∧ Bodies W x.a3 x.s.body ∧ Bodies W x.a4 x.s.els) → StsAt W (l.map SX.s) b i
  | [], _, _, _ => by rw [List.map_nil, StsAt]; trivial
  | x :: l, i, hc, hk => by
    rw [List.map_cons, StsAt]
    refine ⟨?_, sts_of l (i + 13) (fun j hj r hr => ?_) fun y hy => hk y (List.mem_cons_of_mem _ hy)⟩
    · have hh : ∀ r, r < 13 → W.cell? ⟨b, i + r, none⟩ = (kS.f x)[r]? := fun r hr => by
        have := hc 0 (by simp) r hr
        simpa using this
      have h0 := hh 0 (by decide)
      have h1 := hh 1 (by decide)
      have h2 := hh 2 (by decide)
      have h3 := hh 3 (by decide)
      have h4 := hh 4 (by decide)
      have h5 := hh 5 (by decide)
      have h6 := hh 6 (by decide)
      have h7 := hh 7 (by decide)
      have h8 := hh 8 (by decide)
      have h9 := hh 9 (by decide)
      have h10 := hh 10 (by decide)
      have h11 := hh 11 (by decide)
      have h12 := hh 12 (by decide)
      obtain ⟨g1, g2, g3, g4⟩ := hk x List.mem_cons_self
      obtain ⟨⟨o, nm, mx, ⟨oa, na, sa, la⟩, ⟨ob, nb, sb, lb⟩, bd, el⟩, a1, c1, a2, c2, a3, c3, a4, c4⟩ := x
      rw [StAt]
      refine ⟨h0, h1, h2, ?_, ?_, ⟨a3, c3, h11, g3⟩, ⟨a4, c4, h12, g4⟩⟩
      · rw [ExAt]; exact ⟨h3, h4, h5, a1, c1, h6, g1⟩
      · rw [ExAt]; exact ⟨h7, h8, h9, a2, c2, h10, g2⟩
    · have := hc (j + 1) (by simpa using hj) r hr
      rw [show i + 13 + j * 13 + r = i + (j + 1) * 13 + r by omega]
      simpa using this
theorem Own1.bodies {w : World} {b0 : Nat} {Z : Nat → Prop} {p : Option Addr} {q : Nat} {l : List SX} (h : Own1 kS w b0 Z (.slice p l.length q) l) : BodiesF Z w p (l.map SX.s) := by
  by_cases h0 : l = []
  · left; rw [h0]; rfl
  · have hpos : 0 < l.length := List.length_pos_iff.2 h0
    obtain ⟨g, rfl, hz, _⟩ := h.cell hpos
    refine Or.inr ⟨g, 0, rfl, sts_of l 0 (fun j hj r hr => ?_) fun x hx => ?_⟩
    · obtain ⟨g2, hg, hz2, hc⟩ := h.cell hj
      cases hg
      have hr2 : r < (kS.f l[j]).length := by rw [kS.len]; exact hr
      have hcr := hc r hr
      rw [List.getElem?_eq_getElem hr2] at hcr ⊢
      rw [Nat.zero_add]
      exact (hollow_cell Z w _ _ _).2 ⟨hz, hcr⟩
    · exact kS.next (Z' := Z) (h.each x hx) ⟨fun _ _ _ => rfl, fun k hk => Or.inl (Or.inl hk)⟩
theorem cB_len : ∀ l : List St, l.length ≤ cB l
  | [] => Nat.zero_le _
  | e :: r => by
    have := cB_len r
    have h := cS_parts e
    rw [cB, List.length_cons]
    omega
end Go.Proofs.YtgjnddjpinhkgaaDoor.A
