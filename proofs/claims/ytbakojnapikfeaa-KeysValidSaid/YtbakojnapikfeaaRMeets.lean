/-
  What the reference's Intersect returns: its contract.
-/
import Derived.Test.YtbakojnapikfeaaMeets
namespace Go.Proofs.Ytbakojnapikfeaa
open Go.RowKit

theorem rmx_eq (f g : ByteArray) : bmx f g = if (!Op.bytesLess g.toList f.toList && !(g.toList == f.toList)) = true then g else f := by
  rw [gtr_eq]
  simp only [decide_eq_true_iff]
  rfl
theorem rmn_eq (t u : ByteArray) : bmn t u = if (t.toList.isEmpty || (!u.toList.isEmpty && Op.bytesLess u.toList t.toList)) = true then u else t := by
  unfold bmn
  rw [ends_bool]
  cases t.toList.isEmpty
  · cases u.toList.isEmpty
    · cases Op.bytesLess u.toList t.toList
      · rw [eql_eq]
        by_cases h : u.data.toList = t.data.toList
        · rw [WideShapes.bytes_inj h]; simp
        · simp [h]
      · rfl
    · rfl
  · rfl
set_option maxHeartbeats 2000000 in
set_option maxRecDepth 100000 in
theorem rintersect_any (f t g u : ByteArray) (hf : f.size ≤ 281474976710656) (ht : t.size ≤ 281474976710656) (hg : g.size ≤ 281474976710656) (hu : u.size ≤ 281474976710656) (w : World) :
    Calls Try.prog 22 #[.agg #[.string f, .string t], .agg #[.string g, .string u]] w fun e w' => e = .returned (meetV f t g u) ∧ Below w.heap.size w w' := by
  have h1 := rvrange_any f t (by omega) (by omega)
  have h2 := rvrange_any g u (by omega) (by omega)
  have zm := bmx_size hf hg
  have zn := bmn_size ht hu
  have h5 := rvrange_any (bmx f g) (bmn t u) (by omega) (by omega)
  have HM := Lib.hid (Meets.new w f t g u)
  have HV := Lib.hid (meet_eq f t g u)
  have HN := Lib.hid (meetV_no (f := f) (t := t) (g := g) (u := u))
  have HY := Lib.hid (meetV_yes (f := f) (t := t) (g := g) (u := u))
  have HX := Lib.hid (rmx_eq f g)
  have HT := Lib.hid (rmn_eq t u)
  generalize meetV f t g u = V at HN HY
  generalize meet f.data.toList t.data.toList g.data.toList u.data.toList = M at HV HN HY
  generalize vr f.data.toList t.data.toList = A at h1 HV
  generalize vr g.data.toList u.data.toList = B at h2 HV
  generalize vr (bmx f g).data.toList (bmn t u).data.toList = C at h5 HV
  generalize bmx f g = m at h5 HY HX
  generalize bmn t u = n at h5 HY HT
  have H1 := Lib.hid h1
  have H2 := Lib.hid h2
  have H5 := Lib.hid h5
  clear h1 h2 h5 zm zn
  cases A
  · go_enter Try.func22, Try.ntmps22
    go_wp2_with fail
    refine (H1.out _).mono ?_; rintro e w1 ⟨rfl, hb1⟩
    obtain ⟨⟨a0, a1⟩, ⟨b0, b1⟩, ⟨⟨x, y, c0, c1⟩, d0, d1⟩, hbw, hsz⟩ := HM.out.step hb1
    go_wp2_with fail
    obtain ⟨q0, q1⟩ := stored c0 c1 ⟨#[]⟩ ⟨#[]⟩
    refine bodyPost_ret (v := .tuple #[.agg #[.string ⟨#[]⟩, .string ⟨#[]⟩], .bool false]) (by simp [results, Try.results22, go_sem, q0, q1]) rfl ⟨?_, (hbw.setCell (by simp <;> omega) _).setCell (by simp <;> omega) _⟩
    rw [HN.out (by rw [HV.out]; rfl)]
  · cases B
    · go_enter Try.func22, Try.ntmps22
      go_wp2_with fail
      refine (H1.out _).mono ?_; rintro e w1 ⟨rfl, hb1⟩
      have HM1 := Lib.hid (HM.out.step hb1)
      obtain ⟨⟨a0, a1⟩, ⟨b0, b1⟩, _⟩ := HM1.out
      go_wp2_with fail
      refine (H2.out _).mono ?_; rintro e w2 ⟨rfl, hb2⟩
      obtain ⟨⟨a2, a3⟩, ⟨b2, b3⟩, ⟨⟨x, y, c0, c1⟩, d0, d1⟩, hbw, hsz⟩ := HM1.out.step hb2
      go_wp2_with fail
      obtain ⟨q0, q1⟩ := stored c0 c1 ⟨#[]⟩ ⟨#[]⟩
      refine bodyPost_ret (v := .tuple #[.agg #[.string ⟨#[]⟩, .string ⟨#[]⟩], .bool false]) (by simp [results, Try.results22, go_sem, q0, q1]) rfl ⟨?_, (hbw.setCell (by simp <;> omega) _).setCell (by simp <;> omega) _⟩
      rw [HN.out (by rw [HV.out]; rfl)]
    · cases hl : (!Op.bytesLess g.toList f.toList && !(g.toList == f.toList))
      · rw [hl] at HX
        cases he : t.toList.isEmpty
        · cases hd : u.toList.isEmpty
          · cases hr : Op.bytesLess u.toList t.toList
            · rw [he, hd, hr] at HT
              have hm : f = m := by rw [HX.out]; rfl
              have hn : t = n := by rw [HT.out]; rfl
              subst hm hn
              clear HX HT
              go_enter Try.func22, Try.ntmps22
              go_wp2_with fail
              refine (H1.out _).mono ?_; rintro e w1 ⟨rfl, hb1⟩
              have HM1 := Lib.hid (HM.out.step hb1)
              obtain ⟨⟨a0, a1⟩, ⟨b0, b1⟩, _⟩ := HM1.out
              go_wp2_with fail
              refine (H2.out _).mono ?_; rintro e w2 ⟨rfl, hb2⟩
              have HM2 := Lib.hid (HM1.out.step hb2)
              obtain ⟨⟨a2, a3⟩, ⟨b2, b3⟩, _⟩ := HM2.out
              have B3 := (Below.refl w2.heap.size w2).alloc (Nat.le_refl _) (.cells #[.string f, .string t] 23)
              obtain ⟨⟨a4, a5⟩, ⟨b4, b5⟩, _⟩ := HM2.out.step B3
              have HM3 := Lib.hid (HM2.out.step B3)
              have HP := Lib.hid (Has.box w2 f t)
              go_wp2_with fail
              refine (H5.out _).mono ?_; rintro e w4 ⟨rfl, hb4⟩
              obtain ⟨_, _, ⟨⟨x, y, c0, c1⟩, d0, d1⟩, hbw, hsz⟩ := HM3.out.step hb4
              cases C
              · go_wp2_with fail
                obtain ⟨q0, q1⟩ := stored c0 c1 ⟨#[]⟩ ⟨#[]⟩
                refine bodyPost_ret (v := .tuple #[.agg #[.string ⟨#[]⟩, .string ⟨#[]⟩], .bool false]) (by simp [results, Try.results22, go_sem, q0, q1]) rfl ⟨?_, (hbw.setCell (by simp <;> omega) _).setCell (by simp <;> omega) _⟩
                rw [HN.out (by rw [HV.out]; rfl)]
              · obtain ⟨p0, p1⟩ := HP.out.below hb4 (by simp)
                go_wp2_with fail
                obtain ⟨q0, q1⟩ := stored c0 c1 f t
                refine bodyPost_ret (v := .tuple #[.agg #[.string f, .string t], .bool true]) (by simp [results, Try.results22, go_sem, q0, q1]) rfl ⟨?_, (hbw.setCell (by simp <;> omega) _).setCell (by simp <;> omega) _⟩
                rw [HY.out (by rw [HV.out]; rfl)]
            · rw [he, hd, hr] at HT
              have hm : f = m := by rw [HX.out]; rfl
              have hn : u = n := by rw [HT.out]; rfl
              subst hm hn
              clear HX HT
              go_enter Try.func22, Try.ntmps22
              go_wp2_with fail
              refine (H1.out _).mono ?_; rintro e w1 ⟨rfl, hb1⟩
              have HM1 := Lib.hid (HM.out.step hb1)
              obtain ⟨⟨a0, a1⟩, ⟨b0, b1⟩, _⟩ := HM1.out
              go_wp2_with fail
              refine (H2.out _).mono ?_; rintro e w2 ⟨rfl, hb2⟩
              have HM2 := Lib.hid (HM1.out.step hb2)
              obtain ⟨⟨a2, a3⟩, ⟨b2, b3⟩, _⟩ := HM2.out
              have B3 := (Below.refl w2.heap.size w2).alloc (Nat.le_refl _) (.cells #[.string f, .string t] 23)
              obtain ⟨⟨a4, a5⟩, ⟨b4, b5⟩, _⟩ := HM2.out.step B3
              have B5 := (Below.refl w2.heap.size w2).alloc (Nat.le_refl _) (.cells #[.string f, .string u] 23)
              have HM3 := Lib.hid (HM2.out.step B5)
              have HP := Lib.hid (Has.box w2 f u)
              go_wp2_with fail
              refine (H5.out _).mono ?_; rintro e w4 ⟨rfl, hb4⟩
              obtain ⟨_, _, ⟨⟨x, y, c0, c1⟩, d0, d1⟩, hbw, hsz⟩ := HM3.out.step hb4
              cases C
              · go_wp2_with fail
                obtain ⟨q0, q1⟩ := stored c0 c1 ⟨#[]⟩ ⟨#[]⟩
                refine bodyPost_ret (v := .tuple #[.agg #[.string ⟨#[]⟩, .string ⟨#[]⟩], .bool false]) (by simp [results, Try.results22, go_sem, q0, q1]) rfl ⟨?_, (hbw.setCell (by simp <;> omega) _).setCell (by simp <;> omega) _⟩
                rw [HN.out (by rw [HV.out]; rfl)]
              · obtain ⟨p0, p1⟩ := HP.out.below hb4 (by simp)
                go_wp2_with fail
                obtain ⟨q0, q1⟩ := stored c0 c1 f u
                refine bodyPost_ret (v := .tuple #[.agg #[.string f, .string u], .bool true]) (by simp [results, Try.results22, go_sem, q0, q1]) rfl ⟨?_, (hbw.setCell (by simp <;> omega) _).setCell (by simp <;> omega) _⟩
                rw [HY.out (by rw [HV.out]; rfl)]
          · rw [he, hd] at HT
            have hm : f = m := by rw [HX.out]; rfl
            have hn : t = n := by rw [HT.out]; rfl
            subst hm hn
            clear HX HT
            go_enter Try.func22, Try.ntmps22
            go_wp2_with fail
            refine (H1.out _).mono ?_; rintro e w1 ⟨rfl, hb1⟩
            have HM1 := Lib.hid (HM.out.step hb1)
            obtain ⟨⟨a0, a1⟩, ⟨b0, b1⟩, _⟩ := HM1.out
            go_wp2_with fail
            refine (H2.out _).mono ?_; rintro e w2 ⟨rfl, hb2⟩
            have HM2 := Lib.hid (HM1.out.step hb2)
            obtain ⟨⟨a2, a3⟩, ⟨b2, b3⟩, _⟩ := HM2.out
            have B3 := (Below.refl w2.heap.size w2).alloc (Nat.le_refl _) (.cells #[.string f, .string t] 23)
            obtain ⟨⟨a4, a5⟩, ⟨b4, b5⟩, _⟩ := HM2.out.step B3
            have HM3 := Lib.hid (HM2.out.step B3)
            have HP := Lib.hid (Has.box w2 f t)
            go_wp2_with fail
            refine (H5.out _).mono ?_; rintro e w4 ⟨rfl, hb4⟩
            obtain ⟨_, _, ⟨⟨x, y, c0, c1⟩, d0, d1⟩, hbw, hsz⟩ := HM3.out.step hb4
            cases C
            · go_wp2_with fail
              obtain ⟨q0, q1⟩ := stored c0 c1 ⟨#[]⟩ ⟨#[]⟩
              refine bodyPost_ret (v := .tuple #[.agg #[.string ⟨#[]⟩, .string ⟨#[]⟩], .bool false]) (by simp [results, Try.results22, go_sem, q0, q1]) rfl ⟨?_, (hbw.setCell (by simp <;> omega) _).setCell (by simp <;> omega) _⟩
              rw [HN.out (by rw [HV.out]; rfl)]
            · obtain ⟨p0, p1⟩ := HP.out.below hb4 (by simp)
              go_wp2_with fail
              obtain ⟨q0, q1⟩ := stored c0 c1 f t
              refine bodyPost_ret (v := .tuple #[.agg #[.string f, .string t], .bool true]) (by simp [results, Try.results22, go_sem, q0, q1]) rfl ⟨?_, (hbw.setCell (by simp <;> omega) _).setCell (by simp <;> omega) _⟩
              rw [HY.out (by rw [HV.out]; rfl)]
        · rw [he] at HT
          have hm : f = m := by rw [HX.out]; rfl
          have hn : u = n := by rw [HT.out]; rfl
          subst hm hn
          clear HX HT
          go_enter Try.func22, Try.ntmps22
          go_wp2_with fail
          refine (H1.out _).mono ?_; rintro e w1 ⟨rfl, hb1⟩
          have HM1 := Lib.hid (HM.out.step hb1)
          obtain ⟨⟨a0, a1⟩, ⟨b0, b1⟩, _⟩ := HM1.out
          go_wp2_with fail
          refine (H2.out _).mono ?_; rintro e w2 ⟨rfl, hb2⟩
          have HM2 := Lib.hid (HM1.out.step hb2)
          obtain ⟨⟨a2, a3⟩, ⟨b2, b3⟩, _⟩ := HM2.out
          have B3 := (Below.refl w2.heap.size w2).alloc (Nat.le_refl _) (.cells #[.string f, .string t] 23)
          obtain ⟨⟨a4, a5⟩, ⟨b4, b5⟩, _⟩ := HM2.out.step B3
          have B5 := (Below.refl w2.heap.size w2).alloc (Nat.le_refl _) (.cells #[.string f, .string u] 23)
          have HM3 := Lib.hid (HM2.out.step B5)
          have HP := Lib.hid (Has.box w2 f u)
          go_wp2_with fail
          refine (H5.out _).mono ?_; rintro e w4 ⟨rfl, hb4⟩
          obtain ⟨_, _, ⟨⟨x, y, c0, c1⟩, d0, d1⟩, hbw, hsz⟩ := HM3.out.step hb4
          cases C
          · go_wp2_with fail
            obtain ⟨q0, q1⟩ := stored c0 c1 ⟨#[]⟩ ⟨#[]⟩
            refine bodyPost_ret (v := .tuple #[.agg #[.string ⟨#[]⟩, .string ⟨#[]⟩], .bool false]) (by simp [results, Try.results22, go_sem, q0, q1]) rfl ⟨?_, (hbw.setCell (by simp <;> omega) _).setCell (by simp <;> omega) _⟩
            rw [HN.out (by rw [HV.out]; rfl)]
          · obtain ⟨p0, p1⟩ := HP.out.below hb4 (by simp)
            go_wp2_with fail
            obtain ⟨q0, q1⟩ := stored c0 c1 f u
            refine bodyPost_ret (v := .tuple #[.agg #[.string f, .string u], .bool true]) (by simp [results, Try.results22, go_sem, q0, q1]) rfl ⟨?_, (hbw.setCell (by simp <;> omega) _).setCell (by simp <;> omega) _⟩
            rw [HY.out (by rw [HV.out]; rfl)]
      · rw [hl] at HX
        cases he : t.toList.isEmpty
        · cases hd : u.toList.isEmpty
          · cases hr : Op.bytesLess u.toList t.toList
            · rw [he, hd, hr] at HT
              have hm : g = m := by rw [HX.out]; rfl
              have hn : t = n := by rw [HT.out]; rfl
              subst hm hn
              clear HX HT
              go_enter Try.func22, Try.ntmps22
              go_wp2_with fail
              refine (H1.out _).mono ?_; rintro e w1 ⟨rfl, hb1⟩
              have HM1 := Lib.hid (HM.out.step hb1)
              obtain ⟨⟨a0, a1⟩, ⟨b0, b1⟩, _⟩ := HM1.out
              go_wp2_with fail
              refine (H2.out _).mono ?_; rintro e w2 ⟨rfl, hb2⟩
              have HM2 := Lib.hid (HM1.out.step hb2)
              obtain ⟨⟨a2, a3⟩, ⟨b2, b3⟩, _⟩ := HM2.out
              have B3 := (Below.refl w2.heap.size w2).alloc (Nat.le_refl _) (.cells #[.string f, .string t] 23)
              obtain ⟨⟨a4, a5⟩, ⟨b4, b5⟩, _⟩ := HM2.out.step B3
              have B4 := (Below.refl w2.heap.size w2).alloc (Nat.le_refl _) (.cells #[.string g, .string t] 23)
              obtain ⟨⟨a6, a7⟩, ⟨b6, b7⟩, _⟩ := HM2.out.step B4
              have HM3 := Lib.hid (HM2.out.step B4)
              have HP := Lib.hid (Has.box w2 g t)
              go_wp2_with fail
              refine (H5.out _).mono ?_; rintro e w4 ⟨rfl, hb4⟩
              obtain ⟨_, _, ⟨⟨x, y, c0, c1⟩, d0, d1⟩, hbw, hsz⟩ := HM3.out.step hb4
              cases C
              · go_wp2_with fail
                obtain ⟨q0, q1⟩ := stored c0 c1 ⟨#[]⟩ ⟨#[]⟩
                refine bodyPost_ret (v := .tuple #[.agg #[.string ⟨#[]⟩, .string ⟨#[]⟩], .bool false]) (by simp [results, Try.results22, go_sem, q0, q1]) rfl ⟨?_, (hbw.setCell (by simp <;> omega) _).setCell (by simp <;> omega) _⟩
                rw [HN.out (by rw [HV.out]; rfl)]
              · obtain ⟨p0, p1⟩ := HP.out.below hb4 (by simp)
                go_wp2_with fail
                obtain ⟨q0, q1⟩ := stored c0 c1 g t
                refine bodyPost_ret (v := .tuple #[.agg #[.string g, .string t], .bool true]) (by simp [results, Try.results22, go_sem, q0, q1]) rfl ⟨?_, (hbw.setCell (by simp <;> omega) _).setCell (by simp <;> omega) _⟩
                rw [HY.out (by rw [HV.out]; rfl)]
            · rw [he, hd, hr] at HT
              have hm : g = m := by rw [HX.out]; rfl
              have hn : u = n := by rw [HT.out]; rfl
              subst hm hn
              clear HX HT
              go_enter Try.func22, Try.ntmps22
              go_wp2_with fail
              refine (H1.out _).mono ?_; rintro e w1 ⟨rfl, hb1⟩
              have HM1 := Lib.hid (HM.out.step hb1)
              obtain ⟨⟨a0, a1⟩, ⟨b0, b1⟩, _⟩ := HM1.out
              go_wp2_with fail
              refine (H2.out _).mono ?_; rintro e w2 ⟨rfl, hb2⟩
              have HM2 := Lib.hid (HM1.out.step hb2)
              obtain ⟨⟨a2, a3⟩, ⟨b2, b3⟩, _⟩ := HM2.out
              have B3 := (Below.refl w2.heap.size w2).alloc (Nat.le_refl _) (.cells #[.string f, .string t] 23)
              obtain ⟨⟨a4, a5⟩, ⟨b4, b5⟩, _⟩ := HM2.out.step B3
              have B4 := (Below.refl w2.heap.size w2).alloc (Nat.le_refl _) (.cells #[.string g, .string t] 23)
              obtain ⟨⟨a6, a7⟩, ⟨b6, b7⟩, _⟩ := HM2.out.step B4
              have B5 := (Below.refl w2.heap.size w2).alloc (Nat.le_refl _) (.cells #[.string g, .string u] 23)
              have HM3 := Lib.hid (HM2.out.step B5)
              have HP := Lib.hid (Has.box w2 g u)
              go_wp2_with fail
              refine (H5.out _).mono ?_; rintro e w4 ⟨rfl, hb4⟩
              obtain ⟨_, _, ⟨⟨x, y, c0, c1⟩, d0, d1⟩, hbw, hsz⟩ := HM3.out.step hb4
              cases C
              · go_wp2_with fail
                obtain ⟨q0, q1⟩ := stored c0 c1 ⟨#[]⟩ ⟨#[]⟩
                refine bodyPost_ret (v := .tuple #[.agg #[.string ⟨#[]⟩, .string ⟨#[]⟩], .bool false]) (by simp [results, Try.results22, go_sem, q0, q1]) rfl ⟨?_, (hbw.setCell (by simp <;> omega) _).setCell (by simp <;> omega) _⟩
                rw [HN.out (by rw [HV.out]; rfl)]
              · obtain ⟨p0, p1⟩ := HP.out.below hb4 (by simp)
                go_wp2_with fail
                obtain ⟨q0, q1⟩ := stored c0 c1 g u
                refine bodyPost_ret (v := .tuple #[.agg #[.string g, .string u], .bool true]) (by simp [results, Try.results22, go_sem, q0, q1]) rfl ⟨?_, (hbw.setCell (by simp <;> omega) _).setCell (by simp <;> omega) _⟩
                rw [HY.out (by rw [HV.out]; rfl)]
          · rw [he, hd] at HT
            have hm : g = m := by rw [HX.out]; rfl
            have hn : t = n := by rw [HT.out]; rfl
            subst hm hn
            clear HX HT
            go_enter Try.func22, Try.ntmps22
            go_wp2_with fail
            refine (H1.out _).mono ?_; rintro e w1 ⟨rfl, hb1⟩
            have HM1 := Lib.hid (HM.out.step hb1)
            obtain ⟨⟨a0, a1⟩, ⟨b0, b1⟩, _⟩ := HM1.out
            go_wp2_with fail
            refine (H2.out _).mono ?_; rintro e w2 ⟨rfl, hb2⟩
            have HM2 := Lib.hid (HM1.out.step hb2)
            obtain ⟨⟨a2, a3⟩, ⟨b2, b3⟩, _⟩ := HM2.out
            have B3 := (Below.refl w2.heap.size w2).alloc (Nat.le_refl _) (.cells #[.string f, .string t] 23)
            obtain ⟨⟨a4, a5⟩, ⟨b4, b5⟩, _⟩ := HM2.out.step B3
            have B4 := (Below.refl w2.heap.size w2).alloc (Nat.le_refl _) (.cells #[.string g, .string t] 23)
            obtain ⟨⟨a6, a7⟩, ⟨b6, b7⟩, _⟩ := HM2.out.step B4
            have HM3 := Lib.hid (HM2.out.step B4)
            have HP := Lib.hid (Has.box w2 g t)
            go_wp2_with fail
            refine (H5.out _).mono ?_; rintro e w4 ⟨rfl, hb4⟩
            obtain ⟨_, _, ⟨⟨x, y, c0, c1⟩, d0, d1⟩, hbw, hsz⟩ := HM3.out.step hb4
            cases C
            · go_wp2_with fail
              obtain ⟨q0, q1⟩ := stored c0 c1 ⟨#[]⟩ ⟨#[]⟩
              refine bodyPost_ret (v := .tuple #[.agg #[.string ⟨#[]⟩, .string ⟨#[]⟩], .bool false]) (by simp [results, Try.results22, go_sem, q0, q1]) rfl ⟨?_, (hbw.setCell (by simp <;> omega) _).setCell (by simp <;> omega) _⟩
              rw [HN.out (by rw [HV.out]; rfl)]
            · obtain ⟨p0, p1⟩ := HP.out.below hb4 (by simp)
              go_wp2_with fail
              obtain ⟨q0, q1⟩ := stored c0 c1 g t
              refine bodyPost_ret (v := .tuple #[.agg #[.string g, .string t], .bool true]) (by simp [results, Try.results22, go_sem, q0, q1]) rfl ⟨?_, (hbw.setCell (by simp <;> omega) _).setCell (by simp <;> omega) _⟩
              rw [HY.out (by rw [HV.out]; rfl)]
        · rw [he] at HT
          have hm : g = m := by rw [HX.out]; rfl
          have hn : u = n := by rw [HT.out]; rfl
          subst hm hn
          clear HX HT
          go_enter Try.func22, Try.ntmps22
          go_wp2_with fail
          refine (H1.out _).mono ?_; rintro e w1 ⟨rfl, hb1⟩
          have HM1 := Lib.hid (HM.out.step hb1)
          obtain ⟨⟨a0, a1⟩, ⟨b0, b1⟩, _⟩ := HM1.out
          go_wp2_with fail
          refine (H2.out _).mono ?_; rintro e w2 ⟨rfl, hb2⟩
          have HM2 := Lib.hid (HM1.out.step hb2)
          obtain ⟨⟨a2, a3⟩, ⟨b2, b3⟩, _⟩ := HM2.out
          have B3 := (Below.refl w2.heap.size w2).alloc (Nat.le_refl _) (.cells #[.string f, .string t] 23)
          obtain ⟨⟨a4, a5⟩, ⟨b4, b5⟩, _⟩ := HM2.out.step B3
          have B4 := (Below.refl w2.heap.size w2).alloc (Nat.le_refl _) (.cells #[.string g, .string t] 23)
          obtain ⟨⟨a6, a7⟩, ⟨b6, b7⟩, _⟩ := HM2.out.step B4
          have B5 := (Below.refl w2.heap.size w2).alloc (Nat.le_refl _) (.cells #[.string g, .string u] 23)
          have HM3 := Lib.hid (HM2.out.step B5)
          have HP := Lib.hid (Has.box w2 g u)
          go_wp2_with fail
          refine (H5.out _).mono ?_; rintro e w4 ⟨rfl, hb4⟩
          obtain ⟨_, _, ⟨⟨x, y, c0, c1⟩, d0, d1⟩, hbw, hsz⟩ := HM3.out.step hb4
          cases C
          · go_wp2_with fail
            obtain ⟨q0, q1⟩ := stored c0 c1 ⟨#[]⟩ ⟨#[]⟩
            refine bodyPost_ret (v := .tuple #[.agg #[.string ⟨#[]⟩, .string ⟨#[]⟩], .bool false]) (by simp [results, Try.results22, go_sem, q0, q1]) rfl ⟨?_, (hbw.setCell (by simp <;> omega) _).setCell (by simp <;> omega) _⟩
            rw [HN.out (by rw [HV.out]; rfl)]
          · obtain ⟨p0, p1⟩ := HP.out.below hb4 (by simp)
            go_wp2_with fail
            obtain ⟨q0, q1⟩ := stored c0 c1 g u
            refine bodyPost_ret (v := .tuple #[.agg #[.string g, .string u], .bool true]) (by simp [results, Try.results22, go_sem, q0, q1]) rfl ⟨?_, (hbw.setCell (by simp <;> omega) _).setCell (by simp <;> omega) _⟩
            rw [HY.out (by rw [HV.out]; rfl)]
end Go.Proofs.Ytbakojnapikfeaa
