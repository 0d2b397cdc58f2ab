/-
  What ValidRange, Contains, Covers and endsWithin return, of the program and of the reference: contracts, one a function.
-/
import Derived.Test.YtbakojnapikfeaaValids
namespace Go.Proofs.Ytbakojnapikfeaa
open Go.RowKit

/-! ### the model's order of strings, in plain words -/

theorem less_eq : ∀ (x y : List UInt8), Op.bytesLess x y = decide (x < y)
  | [], [] => by simp [Op.bytesLess]
  | _ :: _, [] => by simp [Op.bytesLess]
  | [], _ :: _ => by simp [Op.bytesLess]
  | a :: x, b :: y => by
    rw [Op.bytesLess, less_eq x y]
    simp only [List.cons_lt_cons_iff]
    by_cases h1 : a < b <;> by_cases h2 : a = b <;> by_cases h3 : x < y <;> simp [h1, h2, h3]
theorem lss_eq (a b : ByteArray) : Op.bytesLess a.toList b.toList = decide (a.data.toList < b.data.toList) := by rw [less_eq, Lib.toList_data, Lib.toList_data]
theorem eql_eq (a b : ByteArray) : (a.toList == b.toList) = decide (a.data.toList = b.data.toList) := by rw [Lib.toList_data, Lib.toList_data]; exact Bool.beq_eq_decide_eq _ _
theorem gtr_eq (a b : ByteArray) : (!Op.bytesLess a.toList b.toList && !(a.toList == b.toList)) = decide (b.data.toList < a.data.toList) := by
  rw [lss_eq, eql_eq]
  refine bool_iff ?_
  simp only [Bool.and_eq_true, Bool.not_eq_true', decide_eq_false_iff_not, decide_eq_true_iff]
  constructor
  · rintro ⟨h1, h2⟩
    exact Decidable.byContradiction fun h3 => h2 (lt_tri h1 h3)
  · intro h
    exact ⟨fun h2 => lt_irr _ (lt_tra h h2), fun h2 => lt_irr b.data.toList (by rw [← h2] at h ⊢; exact h)⟩

/-! ### ValidRange -/

/-- w holds a range's two ends at block b -/
structure Has (w : World) (b : Nat) (f t : ByteArray) : Prop where
  fst : w.cell? ⟨b, 0, none⟩ = some (.string f)
  snd : w.cell? ⟨b, 1, none⟩ = some (.string t)
theorem Has.box (w : World) (f t : ByteArray) : Has (w.alloc (.cells #[.string f, .string t] 23)) w.heap.size f t := ⟨by go_simp, by go_simp⟩
theorem Has.box2 (w : World) (o : Obj) (f t : ByteArray) : Has ((w.alloc o).alloc (.cells #[.string f, .string t] 23)) (w.heap.size + 1) f t := ⟨by go_simp, by go_simp⟩
theorem Has.below {w w' : World} {b B : Nat} {f t : ByteArray} (h : Has w b f t) (hb : Below B w w') (hB : b < B) : Has w' b f t :=
  ⟨(hb.cell (by exact hB)).trans h.fst, (hb.cell (by exact hB)).trans h.snd⟩
theorem Has.alloc {w : World} {b : Nat} {f t : ByteArray} (h : Has w b f t) (hB : b < w.heap.size) (o : Obj) : Has (w.alloc o) b f t :=
  h.below ((Below.refl w.heap.size w).alloc (Nat.le_refl _) o) hB

theorem below_box (w : World) (f t : ByteArray) : Below w.heap.size w (w.alloc (.cells #[.string f, .string t] 23)) := (Below.refl _ _).alloc (Nat.le_refl _) _
theorem below_box2 {w w1 w2 : World} {f t : ByteArray} (h1 : Below (w.alloc (.cells #[.string f, .string t] 23)).heap.size (w.alloc (.cells #[.string f, .string t] 23)) w1) (h2 : Below w1.heap.size w1 w2) : Below w.heap.size w w2 :=
  below_2 (below_2 (below_box w f t) h1) h2
theorem under_bool (k t : ByteArray) : under k.data.toList t.data.toList = (t.toList.isEmpty || Op.bytesLess k.toList t.toList) := by
  rw [empty_iff, lss_eq]
  refine bool_iff ?_
  rw [under_iff, Bool.or_eq_true, decide_eq_true_iff, decide_eq_true_iff]
theorem under_gtr (f t : ByteArray) : under f.data.toList t.data.toList = (t.toList.isEmpty || (!Op.bytesLess t.toList f.toList && !(t.toList == f.toList))) := by
  rw [under_bool, gtr_eq, lss_eq]
set_option maxRecDepth 100000 in
theorem vrange_any (f t : ByteArray) (hf : f.size ≤ 9223372036854775807) (ht : t.size ≤ 9223372036854775807) (w : World) :
    Calls Try.prog 13 #[.agg #[.string f, .string t]] w fun e w' => e = .returned (.bool (vr f.data.toList t.data.toList)) ∧ Below w.heap.size w w' := by
  have h1 := isBound_any f hf
  have h2 := isBound_any t ht
  have HB := Lib.hid (Has.box w f t)
  have HV : Hid (vr f.data.toList t.data.toList = (bound f.data.toList && bound t.data.toList && (t.toList.isEmpty || (!Op.bytesLess t.toList f.toList && !(t.toList == f.toList))))) := by rw [← under_gtr]; rfl
  have HW := Lib.hid (fun w1 w2 => below_box2 (w := w) (w1 := w1) (w2 := w2) (f := f) (t := t))
  generalize bound f.data.toList = A at h1 HV
  generalize bound t.data.toList = B at h2 HV
  have H1 := Lib.hid h1
  have H2 := Lib.hid h2
  clear h1 h2
  cases A
  · go_enter Try.func13, Try.ntmps13
    go_wp2_with fail
    refine (H1.out _).mono ?_; rintro e w1 ⟨rfl, hb1⟩
    go_wp2_with fail
    go_ret
    exact ⟨ret_bool (by rw [HV.out]; rfl), HW.out _ _ hb1 (Below.refl _ _)⟩
  · cases B
    · go_enter Try.func13, Try.ntmps13
      go_wp2_with fail
      refine (H1.out _).mono ?_; rintro e w1 ⟨rfl, hb1⟩
      obtain ⟨c0, c1⟩ := HB.out.below hb1 (by simp)
      go_wp2_with fail
      refine (H2.out _).mono ?_; rintro e w2 ⟨rfl, hb2⟩
      go_wp2_with fail
      go_ret
      exact ⟨ret_bool (by rw [HV.out]; rfl), HW.out _ _ hb1 hb2⟩
    · cases he : t.toList.isEmpty
      all_goals
        rw [he] at HV
        go_enter Try.func13, Try.ntmps13
        go_wp2_with fail
        refine (H1.out _).mono ?_; rintro e w1 ⟨rfl, hb1⟩
        have HB1 := Lib.hid (HB.out.below hb1 (by simp))
        obtain ⟨c0, c1⟩ := HB1.out
        go_wp2_with fail
        refine (H2.out _).mono ?_; rintro e w2 ⟨rfl, hb2⟩
        obtain ⟨d0, d1⟩ := HB1.out.below hb2 (by have := hb1.size; simp at this; omega)
        go_wp2_with fail
        go_ret
        exact ⟨ret_bool (by rw [HV.out]; rfl), HW.out _ _ hb1 hb2⟩
set_option maxRecDepth 100000 in
theorem rvrange_any (f t : ByteArray) (hf : f.size ≤ 9223372036854775807) (ht : t.size ≤ 9223372036854775807) (w : World) :
    Calls Try.prog 19 #[.agg #[.string f, .string t]] w fun e w' => e = .returned (.bool (vr f.data.toList t.data.toList)) ∧ Below w.heap.size w w' := by
  have h1 := rbound_any f hf
  have h2 := rbound_any t ht
  have HV : Hid (vr f.data.toList t.data.toList = (bound f.data.toList && bound t.data.toList && (t.toList.isEmpty || (!Op.bytesLess t.toList f.toList && !(t.toList == f.toList))))) := by rw [← under_gtr]; rfl
  have HW := Lib.hid (below_box w f t)
  generalize bound f.data.toList = A at h1 HV
  generalize bound t.data.toList = B at h2 HV
  have H1 := Lib.hid h1
  have H2 := Lib.hid h2
  clear h1 h2
  cases A
  · go_enter Try.func19, Try.ntmps19
    go_wp2_with fail
    refine (H1.out _).mono ?_; rintro e w1 ⟨rfl, rfl⟩
    go_wp2_with fail
    go_ret
    exact ⟨ret_bool (by rw [HV.out]; rfl), HW.out⟩
  · cases B
    · go_enter Try.func19, Try.ntmps19
      go_wp2_with fail
      refine (H1.out _).mono ?_; rintro e w1 ⟨rfl, rfl⟩
      go_wp2_with fail
      refine (H2.out _).mono ?_; rintro e w2 ⟨rfl, rfl⟩
      go_wp2_with fail
      go_ret
      exact ⟨ret_bool (by rw [HV.out]; rfl), HW.out⟩
    · cases he : t.toList.isEmpty
      all_goals
        rw [he] at HV
        go_enter Try.func19, Try.ntmps19
        go_wp2_with fail
        refine (H1.out _).mono ?_; rintro e w1 ⟨rfl, rfl⟩
        go_wp2_with fail
        refine (H2.out _).mono ?_; rintro e w2 ⟨rfl, rfl⟩
        go_wp2_with fail
        go_ret
        exact ⟨ret_bool (by rw [HV.out]; rfl), HW.out⟩

/-! ### Contains -/

theorem over_eq (k f : ByteArray) : (!Op.bytesLess k.toList f.toList) = decide (¬ k.data.toList < f.data.toList) := by rw [lss_eq, decide_not]
set_option maxRecDepth 100000 in
theorem contains_any (f t k : ByteArray) (hf : f.size ≤ 9223372036854775807) (ht : t.size ≤ 9223372036854775807) (w : World) :
    Calls Try.prog 16 #[.agg #[.string f, .string t], .string k] w fun e w' => e = .returned (.bool (cont f.data.toList t.data.toList k.data.toList)) ∧ Below w.heap.size w w' := by
  have h1 := vrange_any f t hf ht
  have HB := Lib.hid (Has.box w f t)
  have HV : Hid (cont f.data.toList t.data.toList k.data.toList = (vr f.data.toList t.data.toList && (!Op.bytesLess k.toList f.toList) && (t.toList.isEmpty || Op.bytesLess k.toList t.toList))) := by rw [← under_bool, over_eq]; rfl
  have HW := Lib.hid (fun w1 (h : Below (w.alloc (.cells #[.string f, .string t] 23)).heap.size (w.alloc (.cells #[.string f, .string t] 23)) w1) => below_2 (below_box w f t) h)
  generalize vr f.data.toList t.data.toList = A at h1 HV
  have H1 := Lib.hid h1
  clear h1
  cases A
  · go_enter Try.func16, Try.ntmps16
    go_wp2_with fail
    refine (H1.out _).mono ?_; rintro e w1 ⟨rfl, hb1⟩
    go_wp2_with fail
    go_ret
    exact ⟨ret_bool (by rw [HV.out]; rfl), HW.out _ hb1⟩
  · cases hl : Op.bytesLess k.toList f.toList
    · cases he : t.toList.isEmpty
      all_goals
        rw [hl, he] at HV
        go_enter Try.func16, Try.ntmps16
        go_wp2_with fail
        refine (H1.out _).mono ?_; rintro e w1 ⟨rfl, hb1⟩
        obtain ⟨c0, c1⟩ := HB.out.below hb1 (by simp)
        go_wp2_with fail
        go_ret
        exact ⟨ret_bool (by rw [HV.out]; rfl), HW.out _ hb1⟩
    · rw [hl] at HV
      go_enter Try.func16, Try.ntmps16
      go_wp2_with fail
      refine (H1.out _).mono ?_; rintro e w1 ⟨rfl, hb1⟩
      obtain ⟨c0, c1⟩ := HB.out.below hb1 (by simp)
      go_wp2_with fail
      go_ret
      exact ⟨ret_bool (by rw [HV.out]; rfl), HW.out _ hb1⟩
set_option maxRecDepth 100000 in
theorem rcontains_any (f t k : ByteArray) (hf : f.size ≤ 9223372036854775807) (ht : t.size ≤ 9223372036854775807) (w : World) :
    Calls Try.prog 20 #[.agg #[.string f, .string t], .string k] w fun e w' => e = .returned (.bool (cont f.data.toList t.data.toList k.data.toList)) ∧ Below w.heap.size w w' := by
  have h1 := rvrange_any f t hf ht
  have HB := Lib.hid (Has.box w f t)
  have HV : Hid (cont f.data.toList t.data.toList k.data.toList = (vr f.data.toList t.data.toList && (!Op.bytesLess k.toList f.toList) && (t.toList.isEmpty || Op.bytesLess k.toList t.toList))) := by rw [← under_bool, over_eq]; rfl
  have HW := Lib.hid (fun w1 (h : Below (w.alloc (.cells #[.string f, .string t] 23)).heap.size (w.alloc (.cells #[.string f, .string t] 23)) w1) => below_2 (below_box w f t) h)
  generalize vr f.data.toList t.data.toList = A at h1 HV
  have H1 := Lib.hid h1
  clear h1
  cases A
  · go_enter Try.func20, Try.ntmps20
    go_wp2_with fail
    refine (H1.out _).mono ?_; rintro e w1 ⟨rfl, hb1⟩
    go_wp2_with fail
    go_ret
    exact ⟨ret_bool (by rw [HV.out]; rfl), HW.out _ hb1⟩
  · cases hl : Op.bytesLess k.toList f.toList
    · cases he : t.toList.isEmpty
      all_goals
        rw [hl, he] at HV
        go_enter Try.func20, Try.ntmps20
        go_wp2_with fail
        refine (H1.out _).mono ?_; rintro e w1 ⟨rfl, hb1⟩
        obtain ⟨c0, c1⟩ := HB.out.below hb1 (by simp)
        go_wp2_with fail
        go_ret
        exact ⟨ret_bool (by rw [HV.out]; rfl), HW.out _ hb1⟩
    · rw [hl] at HV
      go_enter Try.func20, Try.ntmps20
      go_wp2_with fail
      refine (H1.out _).mono ?_; rintro e w1 ⟨rfl, hb1⟩
      obtain ⟨c0, c1⟩ := HB.out.below hb1 (by simp)
      go_wp2_with fail
      go_ret
      exact ⟨ret_bool (by rw [HV.out]; rfl), HW.out _ hb1⟩

/-! ### Covers -/

theorem leq_eq (a b : ByteArray) : (Op.bytesLess a.toList b.toList || a.toList == b.toList) = decide (¬ b.data.toList < a.data.toList) := by
  rw [decide_not, ← gtr_eq, Bool.not_and, Bool.not_not, Bool.not_not]
theorem ends_bool (t u : ByteArray) : ends t.data.toList u.data.toList = (u.toList.isEmpty || (!t.toList.isEmpty && (Op.bytesLess t.toList u.toList || t.toList == u.toList))) := by
  rw [leq_eq, empty_iff, empty_iff]
  refine bool_iff ?_
  rw [ends_iff, Bool.or_eq_true, Bool.and_eq_true, Bool.not_eq_true', decide_eq_true_iff, decide_eq_true_iff, decide_eq_false_iff_not]
set_option maxRecDepth 100000 in
theorem ends_any (t u : ByteArray) (w : World) :
    Calls Try.prog 30 #[.string t, .string u] w fun e w' => e = .returned (.bool (ends t.data.toList u.data.toList)) ∧ w' = w := by
  have HV := Lib.hid (ends_bool t u)
  cases he : u.toList.isEmpty
  · cases hd : t.toList.isEmpty
    all_goals
      rw [he, hd] at HV
      go_enter Try.func30, Try.ntmps30
      go_wp2_with fail
      go_ret
      exact ⟨ret_bool (by rw [HV.out]; rfl), rfl⟩
  · rw [he] at HV
    go_enter Try.func30, Try.ntmps30
    go_wp2_with fail
    go_ret
    exact ⟨ret_bool (by rw [HV.out]; rfl), rfl⟩
theorem covers_bool (fa ta fb tb : ByteArray) : covers fa.data.toList ta.data.toList fb.data.toList tb.data.toList = (!vr fb.data.toList tb.data.toList || (vr fa.data.toList ta.data.toList && (Op.bytesLess fa.toList fb.toList || fa.toList == fb.toList) && ends tb.data.toList ta.data.toList)) := by
  rw [leq_eq]; rfl
theorem below_boxes (w : World) (f t g u : ByteArray) : Below w.heap.size w ((w.alloc (.cells #[.string f, .string t] 23)).alloc (.cells #[.string g, .string u] 23)) := below_alloc2 w _ _
set_option maxRecDepth 100000 in
theorem covers_any (f t g u : ByteArray) (hf : f.size ≤ 9223372036854775807) (ht : t.size ≤ 9223372036854775807) (hg : g.size ≤ 9223372036854775807) (hu : u.size ≤ 9223372036854775807) (w : World) :
    Calls Try.prog 14 #[.agg #[.string f, .string t], .agg #[.string g, .string u]] w fun e w' => e = .returned (.bool (covers f.data.toList t.data.toList g.data.toList u.data.toList)) ∧ Below w.heap.size w w' := by
  have h1 := vrange_any f t hf ht
  have h2 := vrange_any g u hg hu
  have h3 := ends_any u t
  have HA := Lib.hid ((Has.box w f t).alloc (by simp) (.cells #[.string g, .string u] 23))
  have HB := Lib.hid (Has.box2 w (.cells #[.string f, .string t] 23) g u)
  have HV := Lib.hid (covers_bool f t g u)
  have HW := Lib.hid (below_boxes w f t g u)
  generalize vr f.data.toList t.data.toList = A at h1 HV
  generalize vr g.data.toList u.data.toList = B at h2 HV
  generalize ends u.data.toList t.data.toList = E at h3 HV
  have H1 := Lib.hid h1
  have H2 := Lib.hid h2
  have H3 := Lib.hid h3
  clear h1 h2 h3
  cases B
  · go_enter Try.func14, Try.ntmps14
    go_wp2_with fail
    refine (H2.out _).mono ?_; rintro e w1 ⟨rfl, hb1⟩
    go_wp2_with fail
    go_ret
    exact ⟨ret_bool (by rw [HV.out]; rfl), below_2 HW.out hb1⟩
  · cases A
    · go_enter Try.func14, Try.ntmps14
      go_wp2_with fail
      refine (H2.out _).mono ?_; rintro e w1 ⟨rfl, hb1⟩
      obtain ⟨a0, a1⟩ := HA.out.below hb1 (by simp <;> omega)
      go_wp2_with fail
      refine (H1.out _).mono ?_; rintro e w2 ⟨rfl, hb2⟩
      go_wp2_with fail
      go_ret
      exact ⟨ret_bool (by rw [HV.out]; rfl), below_2 (below_2 HW.out hb1) hb2⟩
    · cases hl : (Op.bytesLess f.toList g.toList || f.toList == g.toList)
      all_goals
        rw [hl] at HV
        go_enter Try.func14, Try.ntmps14
        go_wp2_with fail
        refine (H2.out _).mono ?_; rintro e w1 ⟨rfl, hb1⟩
        have HA1 := Lib.hid (HA.out.below hb1 (by simp <;> omega))
        have HB1 := Lib.hid (HB.out.below hb1 (by simp <;> omega))
        obtain ⟨a0, a1⟩ := HA1.out
        go_wp2_with fail
        refine (H1.out _).mono ?_; rintro e w2 ⟨rfl, hb2⟩
        obtain ⟨c0, c1⟩ := HA1.out.below hb2 (by have := hb1.size; simp at this; omega)
        obtain ⟨d0, d1⟩ := HB1.out.below hb2 (by have := hb1.size; simp at this ⊢; omega)
        go_wp2_with (go_at_call 30; refine (H3.out _).mono ?_; rintro e w' ⟨rfl, rfl⟩)
        go_ret
        exact ⟨ret_bool (by rw [HV.out]; rfl), below_2 (below_2 HW.out hb1) hb2⟩
theorem rcovers_bool (fa ta fb tb : ByteArray) : covers fa.data.toList ta.data.toList fb.data.toList tb.data.toList = (!vr fb.data.toList tb.data.toList || (vr fa.data.toList ta.data.toList && (Op.bytesLess fa.toList fb.toList || fa.toList == fb.toList) && (ta.toList.isEmpty || (!tb.toList.isEmpty && (Op.bytesLess tb.toList ta.toList || tb.toList == ta.toList))))) := by
  rw [covers_bool, ends_bool]
set_option maxRecDepth 100000 in
theorem rcovers_any (f t g u : ByteArray) (hf : f.size ≤ 9223372036854775807) (ht : t.size ≤ 9223372036854775807) (hg : g.size ≤ 9223372036854775807) (hu : u.size ≤ 9223372036854775807) (w : World) :
    Calls Try.prog 21 #[.agg #[.string f, .string t], .agg #[.string g, .string u]] w fun e w' => e = .returned (.bool (covers f.data.toList t.data.toList g.data.toList u.data.toList)) ∧ Below w.heap.size w w' := by
  have h1 := rvrange_any f t hf ht
  have h2 := rvrange_any g u hg hu
  have HA := Lib.hid ((Has.box w f t).alloc (by simp) (.cells #[.string g, .string u] 23))
  have HB := Lib.hid (Has.box2 w (.cells #[.string f, .string t] 23) g u)
  have HV := Lib.hid (rcovers_bool f t g u)
  have HW := Lib.hid (below_boxes w f t g u)
  generalize vr f.data.toList t.data.toList = A at h1 HV
  generalize vr g.data.toList u.data.toList = B at h2 HV
  have H1 := Lib.hid h1
  have H2 := Lib.hid h2
  clear h1 h2
  cases B
  · go_enter Try.func21, Try.ntmps21
    go_wp2_with fail
    refine (H2.out _).mono ?_; rintro e w1 ⟨rfl, hb1⟩
    go_wp2_with fail
    go_ret
    exact ⟨ret_bool (by rw [HV.out]; rfl), below_2 HW.out hb1⟩
  · cases A
    · go_enter Try.func21, Try.ntmps21
      go_wp2_with fail
      refine (H2.out _).mono ?_; rintro e w1 ⟨rfl, hb1⟩
      obtain ⟨a0, a1⟩ := HA.out.below hb1 (by simp <;> omega)
      go_wp2_with fail
      refine (H1.out _).mono ?_; rintro e w2 ⟨rfl, hb2⟩
      go_wp2_with fail
      go_ret
      exact ⟨ret_bool (by rw [HV.out]; rfl), below_2 (below_2 HW.out hb1) hb2⟩
    · cases hl : (Op.bytesLess f.toList g.toList || f.toList == g.toList)
      · rw [hl] at HV
        go_enter Try.func21, Try.ntmps21
        go_wp2_with fail
        refine (H2.out _).mono ?_; rintro e w1 ⟨rfl, hb1⟩
        have HA1 := Lib.hid (HA.out.below hb1 (by simp <;> omega))
        have HB1 := Lib.hid (HB.out.below hb1 (by simp <;> omega))
        obtain ⟨a0, a1⟩ := HA1.out
        go_wp2_with fail
        refine (H1.out _).mono ?_; rintro e w2 ⟨rfl, hb2⟩
        obtain ⟨c0, c1⟩ := HA1.out.below hb2 (by have := hb1.size; simp at this; omega)
        obtain ⟨d0, d1⟩ := HB1.out.below hb2 (by have := hb1.size; simp at this ⊢; omega)
        go_wp2_with fail
        go_ret
        exact ⟨ret_bool (by rw [HV.out]; rfl), below_2 (below_2 HW.out hb1) hb2⟩
      · cases he : t.toList.isEmpty
        · cases hd : u.toList.isEmpty
          all_goals
            rw [hl, he, hd] at HV
            go_enter Try.func21, Try.ntmps21
            go_wp2_with fail
            refine (H2.out _).mono ?_; rintro e w1 ⟨rfl, hb1⟩
            have HA1 := Lib.hid (HA.out.below hb1 (by simp <;> omega))
            have HB1 := Lib.hid (HB.out.below hb1 (by simp <;> omega))
            obtain ⟨a0, a1⟩ := HA1.out
            go_wp2_with fail
            refine (H1.out _).mono ?_; rintro e w2 ⟨rfl, hb2⟩
            obtain ⟨c0, c1⟩ := HA1.out.below hb2 (by have := hb1.size; simp at this; omega)
            obtain ⟨d0, d1⟩ := HB1.out.below hb2 (by have := hb1.size; simp at this ⊢; omega)
            go_wp2_with fail
            go_ret
            exact ⟨ret_bool (by rw [HV.out]; rfl), below_2 (below_2 HW.out hb1) hb2⟩
        · rw [hl, he] at HV
          go_enter Try.func21, Try.ntmps21
          go_wp2_with fail
          refine (H2.out _).mono ?_; rintro e w1 ⟨rfl, hb1⟩
          have HA1 := Lib.hid (HA.out.below hb1 (by simp <;> omega))
          have HB1 := Lib.hid (HB.out.below hb1 (by simp <;> omega))
          obtain ⟨a0, a1⟩ := HA1.out
          go_wp2_with fail
          refine (H1.out _).mono ?_; rintro e w2 ⟨rfl, hb2⟩
          obtain ⟨c0, c1⟩ := HA1.out.below hb2 (by have := hb1.size; simp at this; omega)
          obtain ⟨d0, d1⟩ := HB1.out.below hb2 (by have := hb1.size; simp at this ⊢; omega)
          go_wp2_with fail
          go_ret
          exact ⟨ret_bool (by rw [HV.out]; rfl), below_2 (below_2 HW.out hb1) hb2⟩
end Go.Proofs.Ytbakojnapikfeaa
