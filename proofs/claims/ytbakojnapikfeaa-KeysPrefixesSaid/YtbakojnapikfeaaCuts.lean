/-
  What Split returns, of the program and of the reference: contracts, one a function.
-/
import Derived.Test.YtbakojnapikfeaaNews
import Derived.Deep.RegionHeld3
import Derived.BigRegion
namespace Go.Proofs.Ytbakojnapikfeaa
open Go.RowKit

/-- what Split returns -/
def cutV (f t k : ByteArray) : Value :=
  if cuts f.data.toList t.data.toList k.data.toList then .tuple #[.agg #[.string f, .string k], .agg #[.string k, .string t], .int .i64 0]
  else .tuple #[.agg #[.string ⟨#[]⟩, .string ⟨#[]⟩], .agg #[.string ⟨#[]⟩, .string ⟨#[]⟩], .int .i64 1]
theorem cutV_no {f t k : ByteArray} (h : cuts f.data.toList t.data.toList k.data.toList = false) : cutV f t k = .tuple #[.agg #[.string ⟨#[]⟩, .string ⟨#[]⟩], .agg #[.string ⟨#[]⟩, .string ⟨#[]⟩], .int .i64 1] := by
  unfold cutV; rw [h]; rfl
theorem cutV_yes {f t k : ByteArray} (h : cuts f.data.toList t.data.toList k.data.toList = true) : cutV f t k = .tuple #[.agg #[.string f, .string k], .agg #[.string k, .string t], .int .i64 0] := by
  unfold cutV; rw [h]; rfl
theorem cut_eq (f t k : ByteArray) : cuts f.data.toList t.data.toList k.data.toList = (cont f.data.toList t.data.toList k.data.toList && !(k.toList == f.toList) && bound k.data.toList) := by
  rw [eql_eq, cuts_code]
/-- the world as Split's body begins -/
def cutWorld (w : World) (f t : ByteArray) : World := ((w.alloc (.cells #[.string f, .string t] 23)).alloc (.cells #[.string ⟨#[]⟩, .string ⟨#[]⟩] 23)).alloc (.cells #[.string ⟨#[]⟩, .string ⟨#[]⟩] 23)
structure Cuts (w w1 : World) (f t : ByteArray) : Prop where
  one : Has w1 w.heap.size f t
  left : Mine w1 (w.heap.size + 1)
  right : Mine w1 (w.heap.size + 1 + 1)
  below : Below w.heap.size w w1
  size : w.heap.size + 3 ≤ w1.heap.size
theorem Cuts.new (w : World) (f t : ByteArray) : Cuts w (cutWorld w f t) f t := by
  unfold cutWorld
  refine ⟨⟨by go_simp, by go_simp⟩, ⟨⟨⟨#[]⟩, ⟨#[]⟩, by go_simp, by go_simp⟩, by go_simp, by go_simp⟩, ⟨⟨⟨#[]⟩, ⟨#[]⟩, by go_simp, by go_simp⟩, by go_simp, by go_simp⟩, ?_, by simp⟩
  exact (below_boxes w f t ⟨#[]⟩ ⟨#[]⟩).alloc (by simp <;> omega) _
theorem Cuts.step {w w1 w2 : World} {f t : ByteArray} (h : Cuts w w1 f t) (hb : Below w1.heap.size w1 w2) : Cuts w w2 f t := by
  have hs := h.size
  have hz := hb.size
  exact ⟨h.one.below hb (by omega), h.left.below hb (by omega), h.right.below hb (by omega), below_2 h.below hb, by omega⟩
theorem Cuts.drew {w w1 : World} {f t : ByteArray} (h : Cuts w w1 f t) : Cuts w w1.drew f t := h.step (Below.refl _ _).drew
/-- both results stored -/
theorem stored2 {w : World} {b : Nat} {x y z v : ByteArray} (c0 : w.cell? ⟨b, 0, none⟩ = some (.string x)) (c1 : w.cell? ⟨b, 1, none⟩ = some (.string y)) (d0 : w.cell? ⟨b + 1, 0, none⟩ = some (.string z)) (d1 : w.cell? ⟨b + 1, 1, none⟩ = some (.string v)) (f t g u : ByteArray) :
    Has ((((w.setCell ⟨b, 0, none⟩ (.string f)).setCell ⟨b, 1, none⟩ (.string t)).setCell ⟨b + 1, 0, none⟩ (.string g)).setCell ⟨b + 1, 1, none⟩ (.string u)) b f t ∧
    Has ((((w.setCell ⟨b, 0, none⟩ (.string f)).setCell ⟨b, 1, none⟩ (.string t)).setCell ⟨b + 1, 0, none⟩ (.string g)).setCell ⟨b + 1, 1, none⟩ (.string u)) (b + 1) g u :=
  ⟨⟨by go_simp, by go_simp⟩, ⟨by go_simp, by go_simp⟩⟩
theorem cut_below {w w1 : World} {f t : ByteArray} (h : Cuts w w1 f t) (a b c d : Value) :
    Below w.heap.size w ((((w1.setCell ⟨w.heap.size + 1, 0, none⟩ a).setCell ⟨w.heap.size + 1, 1, none⟩ b).setCell ⟨w.heap.size + 1 + 1, 0, none⟩ c).setCell ⟨w.heap.size + 1 + 1, 1, none⟩ d) :=
  (((h.below.setCell (by simp) _).setCell (by simp) _).setCell (by simp <;> omega) _).setCell (by simp <;> omega) _
set_option maxHeartbeats 1000000 in
set_option maxRecDepth 100000 in
theorem split_any (f t k : ByteArray) (hf : f.size ≤ 281474976710656) (ht : t.size ≤ 281474976710656) (hk : k.size ≤ 281474976710656) (w : World) :
    Calls Try.prog 12 #[.agg #[.string f, .string t], .string k] w fun e w' => e = .returned (cutV f t k) ∧ Below w.heap.size w w' := by
  have h1 := contains_any f t k (by omega) (by omega)
  have h2 := isBound_any k (by omega)
  have H3 := Lib.hid (newRange_any f k hf hk)
  have H4 := Lib.hid (newRange_any k t hk ht)
  have HM := Lib.hid (Cuts.new w f t)
  have HV := Lib.hid (cut_eq f t k)
  have HN := Lib.hid (cutV_no (f := f) (t := t) (k := k))
  have HY := Lib.hid (cutV_yes (f := f) (t := t) (k := k))
  generalize cutV f t k = V at HN HY
  generalize cuts f.data.toList t.data.toList k.data.toList = M at HV HN HY
  generalize cont f.data.toList t.data.toList k.data.toList = A at h1 HV
  generalize bound k.data.toList = B at h2 HV
  have H1 := Lib.hid h1
  have H2 := Lib.hid h2
  clear h1 h2
  cases A
  · go_enter Try.func12, Try.ntmps12
    go_wp2_with fail
    refine (H1.out _).mono ?_; rintro e w1 ⟨rfl, hb1⟩
    have HM1 := Lib.hid (HM.out.step hb1)
    obtain ⟨⟨a0, a1⟩, ⟨⟨x, y, c0, c1⟩, c2, c3⟩, ⟨⟨z, v, d0, d1⟩, d2, d3⟩, _⟩ := HM1.out
    go_wp2_with fail
    obtain ⟨⟨q0, q1⟩, q2, q3⟩ := stored2 c0 c1 d0 d1 ⟨#[]⟩ ⟨#[]⟩ ⟨#[]⟩ ⟨#[]⟩
    refine bodyPost_ret (v := .tuple #[.agg #[.string ⟨#[]⟩, .string ⟨#[]⟩], .agg #[.string ⟨#[]⟩, .string ⟨#[]⟩], .int .i64 1]) (by simp [results, Try.results12, go_sem, q0, q1, q2, q3]) rfl ⟨?_, cut_below HM1.out _ _ _ _⟩
    rw [HN.out (by rw [HV.out]; rfl)]
  · cases hq : (k.toList == f.toList)
    · rw [hq] at HV
      cases B
      · go_enter Try.func12, Try.ntmps12
        go_wp2_with fail
        refine (H1.out _).mono ?_; rintro e w1 ⟨rfl, hb1⟩
        have HM1 := Lib.hid (HM.out.step hb1)
        obtain ⟨⟨a0, a1⟩, _⟩ := HM1.out
        go_wp2_with fail
        refine (H2.out _).mono ?_; rintro e w2 ⟨rfl, hb2⟩
        have HM2 := Lib.hid (HM1.out.step hb2)
        obtain ⟨⟨a2, a3⟩, ⟨⟨x, y, c0, c1⟩, c2, c3⟩, ⟨⟨z, v, d0, d1⟩, d2, d3⟩, _⟩ := HM2.out
        go_wp2_with fail
        obtain ⟨⟨q0, q1⟩, q2, q3⟩ := stored2 c0 c1 d0 d1 ⟨#[]⟩ ⟨#[]⟩ ⟨#[]⟩ ⟨#[]⟩
        refine bodyPost_ret (v := .tuple #[.agg #[.string ⟨#[]⟩, .string ⟨#[]⟩], .agg #[.string ⟨#[]⟩, .string ⟨#[]⟩], .int .i64 1]) (by simp [results, Try.results12, go_sem, q0, q1, q2, q3]) rfl ⟨?_, cut_below HM2.out _ _ _ _⟩
        rw [HN.out (by rw [HV.out]; rfl)]
      · go_enter Try.func12, Try.ntmps12
        go_wp2_with fail
        refine (H1.out _).mono ?_; rintro e w1 ⟨rfl, hb1⟩
        have HM1 := Lib.hid (HM.out.step hb1)
        obtain ⟨⟨a0, a1⟩, _⟩ := HM1.out
        go_wp2_with fail
        refine (H2.out _).mono ?_; rintro e w2 ⟨rfl, hb2⟩
        have HM2 := Lib.hid (HM1.out.step hb2).drew
        obtain ⟨⟨a2, a3⟩, _⟩ := (HM1.out.step hb2)
        go_wp2_with fail
        go_region_held3 (fun w' => w'.cell? ⟨w.heap.size, 0, none⟩ = some (.string f) ∧ w'.cell? ⟨w.heap.size, 1, none⟩ = some (.string t)) (first | go_keep | (refine ⟨?_, ?_⟩ <;> go_simp))
          (first
            | (go_at_call 29; refine (H3.out _).mono ?_; rintro e w3 ⟨rfl, hb3⟩; have HM3 := Lib.hid (HM2.out.step hb3); obtain ⟨⟨a4, a5⟩, _⟩ := HM3.out)
            | (go_at_call 29; refine (H4.out _).mono ?_; rintro e w4 ⟨rfl, hb4⟩; have HM4 := Lib.hid (HM3.out.step hb4); obtain ⟨⟨a6, a7⟩, ⟨⟨x, y, c0, c1⟩, c2, c3⟩, ⟨⟨z, v, d0, d1⟩, d2, d3⟩, _⟩ := HM4.out))
        go_wp2_with fail
        obtain ⟨⟨q0, q1⟩, q2, q3⟩ := stored2 c0 c1 d0 d1 f k k t
        refine bodyPost_ret (v := .tuple #[.agg #[.string f, .string k], .agg #[.string k, .string t], .int .i64 0]) (by simp [results, Try.results12, go_sem, q0, q1, q2, q3]) rfl ⟨?_, cut_below HM4.out _ _ _ _⟩
        rw [HY.out (by rw [HV.out]; rfl)]
    · rw [hq] at HV
      go_enter Try.func12, Try.ntmps12
      go_wp2_with fail
      refine (H1.out _).mono ?_; rintro e w1 ⟨rfl, hb1⟩
      have HM1 := Lib.hid (HM.out.step hb1)
      obtain ⟨⟨a0, a1⟩, ⟨⟨x, y, c0, c1⟩, c2, c3⟩, ⟨⟨z, v, d0, d1⟩, d2, d3⟩, _⟩ := HM1.out
      go_wp2_with fail
      obtain ⟨⟨q0, q1⟩, q2, q3⟩ := stored2 c0 c1 d0 d1 ⟨#[]⟩ ⟨#[]⟩ ⟨#[]⟩ ⟨#[]⟩
      refine bodyPost_ret (v := .tuple #[.agg #[.string ⟨#[]⟩, .string ⟨#[]⟩], .agg #[.string ⟨#[]⟩, .string ⟨#[]⟩], .int .i64 1]) (by simp [results, Try.results12, go_sem, q0, q1, q2, q3]) rfl ⟨?_, cut_below HM1.out _ _ _ _⟩
      rw [HN.out (by rw [HV.out]; rfl)]
end Go.Proofs.Ytbakojnapikfeaa
