/-
  What newRange, Intersect and Split return, of the program and of the reference: contracts, one a function.
-/
import Derived.Test.YtbakojnapikfeaaRanges
namespace Go.Proofs.Ytbakojnapikfeaa
open Go.RowKit

theorem clone_any (s : ByteArray) (hs : s.size ≤ 281474976710656) (w : World) :
    Calls Try.prog 37 #[.string s] w fun e w' => e = .returned (.string s) ∧ Below w.heap.size w w' := by
  go_enter Try.func37, Try.ntmps37
  go_wp2_with (go_at_call 40; refine (Try.stringslite_Clone _ _ hs).mono ?_; rintro e w' ⟨rfl, hb⟩)
  go_ret
  exact ⟨rfl, hb⟩
/-- block b is the call's own and may be written -/
structure Mine (w : World) (b : Nat) : Prop where
  cells : ∃ x y, Has w b x y
  free : w.frozen? ⟨b, 0, none⟩ = false ∧ w.frozen? ⟨b, 1, none⟩ = false
theorem Mine.below {w w' : World} {b B : Nat} (h : Mine w b) (hb : Below B w w') (hB : b < B) : Mine w' b := by
  obtain ⟨⟨x, y, h1⟩, h2, h3⟩ := h
  exact ⟨⟨x, y, h1.below hb hB⟩, (hb.frozen (by exact hB)).trans h2, (hb.frozen (by exact hB)).trans h3⟩
theorem Mine.new (w : World) (f t : ByteArray) : Mine (w.alloc (.cells #[.string f, .string t] 23)) w.heap.size := ⟨⟨f, t, Has.box w f t⟩, by go_simp, by go_simp⟩
theorem stored {w : World} {b : Nat} {x y : ByteArray} (c0 : w.cell? ⟨b, 0, none⟩ = some (.string x)) (c1 : w.cell? ⟨b, 1, none⟩ = some (.string y)) (f t : ByteArray) :
    Has ((w.setCell ⟨b, 0, none⟩ (.string f)).setCell ⟨b, 1, none⟩ (.string t)) b f t := ⟨by go_simp, by go_simp⟩
set_option maxRecDepth 100000 in
theorem newRange_any (f t : ByteArray) (hf : f.size ≤ 281474976710656) (ht : t.size ≤ 281474976710656) (w : World) :
    Calls Try.prog 29 #[.string f, .string t] w fun e w' => e = .returned (.agg #[.string f, .string t]) ∧ Below w.heap.size w w' := by
  have H1 := Lib.hid (clone_any f hf)
  have H2 := Lib.hid (clone_any t ht)
  have HM := Lib.hid (Mine.new w ⟨#[]⟩ ⟨#[]⟩)
  have HW := Lib.hid (below_box w ⟨#[]⟩ ⟨#[]⟩)
  go_enter Try.func29, Try.ntmps29
  go_wp2_with fail
  refine (H1.out _).mono ?_; rintro e w1 ⟨rfl, hb1⟩
  have HM1 := Lib.hid (HM.out.below hb1 (by simp))
  go_wp2_with fail
  refine (H2.out _).mono ?_; rintro e w2 ⟨rfl, hb2⟩
  obtain ⟨⟨x, y, c0, c1⟩, d0, d1⟩ := HM1.out.below hb2 (by have := hb1.size; simp at this; omega)
  go_wp2_with fail
  obtain ⟨q0, q1⟩ := stored c0 c1 f t
  refine bodyPost_ret (v := .agg #[.string f, .string t]) (by simp [results, Try.results29, go_sem, q0, q1]) rfl ⟨rfl, ?_⟩
  exact ((below_2 (below_2 HW.out hb1) hb2).setCell (by simp) _).setCell (by simp) _
end Go.Proofs.Ytbakojnapikfeaa
