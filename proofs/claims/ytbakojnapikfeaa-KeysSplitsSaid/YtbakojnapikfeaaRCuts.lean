/-
  What the reference's Split returns: its contract.
-/
import Derived.Test.YtbakojnapikfeaaCuts
namespace Go.Proofs.Ytbakojnapikfeaa
open Go.RowKit

theorem rcut_eq (f t k : ByteArray) : cuts f.data.toList t.data.toList k.data.toList = (vr f.data.toList t.data.toList && bound k.data.toList && !(Op.bytesLess k.toList f.toList || k.toList == f.toList) && (t.toList.isEmpty || Op.bytesLess k.toList t.toList)) := by
  rw [← under_bool, leq_eq]
  simp only [decide_not, Bool.not_not]
  rfl
theorem far_drew {w : World} {b : Nat} {f t : ByteArray} (h : Has w b f t) : Has w.drew b f t := ⟨h.fst, h.snd⟩
set_option maxHeartbeats 1000000 in
set_option maxRecDepth 100000 in
theorem rsplit_any (f t k : ByteArray) (hf : f.size ≤ 281474976710656) (ht : t.size ≤ 281474976710656) (hk : k.size ≤ 281474976710656) (w : World) :
    Calls Try.prog 23 #[.agg #[.string f, .string t], .string k] w fun e w' => e = .returned (cutV f t k) ∧ Below w.heap.size w w' := by
  have h1 := rvrange_any f t (by omega) (by omega)
  have h2 := rbound_any k (by omega)
  have HM := Lib.hid (Cuts.new w f t)
  have HV := Lib.hid (rcut_eq f t k)
  have HN := Lib.hid (cutV_no (f := f) (t := t) (k := k))
  have HY := Lib.hid (cutV_yes (f := f) (t := t) (k := k))
  generalize cutV f t k = V at HN HY
  generalize cuts f.data.toList t.data.toList k.data.toList = M at HV HN HY
  generalize vr f.data.toList t.data.toList = A at h1 HV
  generalize bound k.data.toList = B at h2 HV
  have H1 := Lib.hid h1
  have H2 := Lib.hid h2
  clear h1 h2
  cases A
  · go_enter Try.func23, Try.ntmps23
    go_wp2_with fail
    refine (H1.out _).mono ?_; rintro e w1 ⟨rfl, hb1⟩
    have HM1 := Lib.hid (HM.out.step hb1)
    obtain ⟨⟨a0, a1⟩, ⟨⟨x, y, c0, c1⟩, c2, c3⟩, ⟨⟨z, v, d0, d1⟩, d2, d3⟩, _⟩ := HM1.out
    go_wp2_with fail
    obtain ⟨⟨q0, q1⟩, q2, q3⟩ := stored2 c0 c1 d0 d1 ⟨#[]⟩ ⟨#[]⟩ ⟨#[]⟩ ⟨#[]⟩
    refine bodyPost_ret (v := .tuple #[.agg #[.string ⟨#[]⟩, .string ⟨#[]⟩], .agg #[.string ⟨#[]⟩, .string ⟨#[]⟩], .int .i64 1]) (by simp [results, Try.results23, go_sem, q0, q1, q2, q3]) rfl ⟨?_, cut_below HM1.out _ _ _ _⟩
    rw [HN.out (by rw [HV.out]; rfl)]
  · cases B
    · go_enter Try.func23, Try.ntmps23
      go_wp2_with fail
      refine (H1.out _).mono ?_; rintro e w1 ⟨rfl, hb1⟩
      have HM1 := Lib.hid (HM.out.step hb1)
      go_wp2_with fail
      refine (H2.out _).mono ?_; rintro e w2 ⟨rfl, rfl⟩
      obtain ⟨⟨a0, a1⟩, ⟨⟨x, y, c0, c1⟩, c2, c3⟩, ⟨⟨z, v, d0, d1⟩, d2, d3⟩, _⟩ := HM1.out
      go_wp2_with fail
      obtain ⟨⟨q0, q1⟩, q2, q3⟩ := stored2 c0 c1 d0 d1 ⟨#[]⟩ ⟨#[]⟩ ⟨#[]⟩ ⟨#[]⟩
      refine bodyPost_ret (v := .tuple #[.agg #[.string ⟨#[]⟩, .string ⟨#[]⟩], .agg #[.string ⟨#[]⟩, .string ⟨#[]⟩], .int .i64 1]) (by simp [results, Try.results23, go_sem, q0, q1, q2, q3]) rfl ⟨?_, cut_below HM1.out _ _ _ _⟩
      rw [HN.out (by rw [HV.out]; rfl)]
    · cases hl : (Op.bytesLess k.toList f.toList || k.toList == f.toList)
      · cases he : t.toList.isEmpty
        · cases hr : Op.bytesLess k.toList t.toList
          · rw [hl, he, hr] at HV
            go_enter Try.func23, Try.ntmps23
            go_wp2_with fail
            refine (H1.out _).mono ?_; rintro e w1 ⟨rfl, hb1⟩
            have HM1 := Lib.hid (HM.out.step hb1)
            go_wp2_with fail
            refine (H2.out _).mono ?_; rintro e w2 ⟨rfl, rfl⟩
            obtain ⟨⟨a0, a1⟩, ⟨⟨x, y, c0, c1⟩, c2, c3⟩, ⟨⟨z, v, d0, d1⟩, d2, d3⟩, _⟩ := HM1.out
            go_wp2_with fail
            obtain ⟨⟨q0, q1⟩, q2, q3⟩ := stored2 c0 c1 d0 d1 ⟨#[]⟩ ⟨#[]⟩ ⟨#[]⟩ ⟨#[]⟩
            refine bodyPost_ret (v := .tuple #[.agg #[.string ⟨#[]⟩, .string ⟨#[]⟩], .agg #[.string ⟨#[]⟩, .string ⟨#[]⟩], .int .i64 1]) (by simp [results, Try.results23, go_sem, q0, q1, q2, q3]) rfl ⟨?_, cut_below HM1.out _ _ _ _⟩
            rw [HN.out (by rw [HV.out]; rfl)]
          · rw [hl, he, hr] at HV
            go_enter Try.func23, Try.ntmps23
            go_wp2_with fail
            refine (H1.out _).mono ?_; rintro e w1 ⟨rfl, hb1⟩
            have HM1 := Lib.hid (HM.out.step hb1)
            go_wp2_with fail
            refine (H2.out _).mono ?_; rintro e w2 ⟨rfl, rfl⟩
            obtain ⟨⟨a0, a1⟩, ⟨⟨x, y, c0, c1⟩, c2, c3⟩, ⟨⟨z, v, d0, d1⟩, d2, d3⟩, _⟩ := HM1.out
            go_wp2_with fail
            go_region
            go_wp2_with fail
            obtain ⟨h0, h2⟩ := stored2 c0 c1 d0 d1 f k k t
            obtain ⟨q0, q1⟩ := far_drew h0
            obtain ⟨q2, q3⟩ := far_drew h2
            refine bodyPost_ret (v := .tuple #[.agg #[.string f, .string k], .agg #[.string k, .string t], .int .i64 0]) (by simp [results, Try.results23, go_sem, q0, q1, q2, q3]) rfl ⟨?_, (cut_below HM1.out _ _ _ _).drew⟩
            rw [HY.out (by rw [HV.out]; rfl)]
        · rw [hl, he] at HV
          go_enter Try.func23, Try.ntmps23
          go_wp2_with fail
          refine (H1.out _).mono ?_; rintro e w1 ⟨rfl, hb1⟩
          have HM1 := Lib.hid (HM.out.step hb1)
          go_wp2_with fail
          refine (H2.out _).mono ?_; rintro e w2 ⟨rfl, rfl⟩
          obtain ⟨⟨a0, a1⟩, ⟨⟨x, y, c0, c1⟩, c2, c3⟩, ⟨⟨z, v, d0, d1⟩, d2, d3⟩, _⟩ := HM1.out
          go_wp2_with fail
          go_region
          go_wp2_with fail
          obtain ⟨h0, h2⟩ := stored2 c0 c1 d0 d1 f k k t
          obtain ⟨q0, q1⟩ := far_drew h0
          obtain ⟨q2, q3⟩ := far_drew h2
          refine bodyPost_ret (v := .tuple #[.agg #[.string f, .string k], .agg #[.string k, .string t], .int .i64 0]) (by simp [results, Try.results23, go_sem, q0, q1, q2, q3]) rfl ⟨?_, (cut_below HM1.out _ _ _ _).drew⟩
          rw [HY.out (by rw [HV.out]; rfl)]
      · rw [hl] at HV
        go_enter Try.func23, Try.ntmps23
        go_wp2_with fail
        refine (H1.out _).mono ?_; rintro e w1 ⟨rfl, hb1⟩
        have HM1 := Lib.hid (HM.out.step hb1)
        go_wp2_with fail
        refine (H2.out _).mono ?_; rintro e w2 ⟨rfl, rfl⟩
        obtain ⟨⟨a0, a1⟩, ⟨⟨x, y, c0, c1⟩, c2, c3⟩, ⟨⟨z, v, d0, d1⟩, d2, d3⟩, _⟩ := HM1.out
        go_wp2_with fail
        obtain ⟨⟨q0, q1⟩, q2, q3⟩ := stored2 c0 c1 d0 d1 ⟨#[]⟩ ⟨#[]⟩ ⟨#[]⟩ ⟨#[]⟩
        refine bodyPost_ret (v := .tuple #[.agg #[.string ⟨#[]⟩, .string ⟨#[]⟩], .agg #[.string ⟨#[]⟩, .string ⟨#[]⟩], .int .i64 1]) (by simp [results, Try.results23, go_sem, q0, q1, q2, q3]) rfl ⟨?_, cut_below HM1.out _ _ _ _⟩
        rw [HN.out (by rw [HV.out]; rfl)]
end Go.Proofs.Ytbakojnapikfeaa
