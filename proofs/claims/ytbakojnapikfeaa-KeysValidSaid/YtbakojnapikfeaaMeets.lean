/-
  What Intersect returns, of the program and of the reference: contracts, one a function.
-/
import Derived.Test.YtbakojnapikfeaaNews
namespace Go.Proofs.Ytbakojnapikfeaa
open Go.RowKit

/-- the greater of two strings -/
def bmx (a b : ByteArray) : ByteArray := if a.data.toList < b.data.toList then b else a
/-- the lesser of two upper ends -/
def bmn (t u : ByteArray) : ByteArray := if ends u.data.toList t.data.toList then u else t
theorem bmx_list (a b : ByteArray) : (bmx a b).data.toList = mx a.data.toList b.data.toList := by unfold bmx mx; split <;> rfl
theorem bmn_list (t u : ByteArray) : (bmn t u).data.toList = mn t.data.toList u.data.toList := by unfold bmn mn; split <;> rfl
theorem run_max_strs (P : Program) (w : World) (ts : Array TypeId) (t : TypeId) (x y : ByteArray) : (Builtin.max_ ts t #[.string x, .string y]).run P w = .ok (.string (bmx x y)) w := by
  by_cases h : x.data.toList < y.data.toList <;> simp [Builtin.max_, Builtin.max2, Op.stringOp, asBool, bmx, less_eq, Lib.toList_data, h]
/-- the range that Intersect returns -/
def meetF (f t g u : ByteArray) : ByteArray := if meet f.data.toList t.data.toList g.data.toList u.data.toList then bmx f g else ⟨#[]⟩
def meetT (f t g u : ByteArray) : ByteArray := if meet f.data.toList t.data.toList g.data.toList u.data.toList then bmn t u else ⟨#[]⟩
/-- what Intersect returns -/
def meetV (f t g u : ByteArray) : Value := .tuple #[.agg #[.string (meetF f t g u), .string (meetT f t g u)], .bool (meet f.data.toList t.data.toList g.data.toList u.data.toList)]
theorem meetV_no {f t g u : ByteArray} (h : meet f.data.toList t.data.toList g.data.toList u.data.toList = false) : meetV f t g u = .tuple #[.agg #[.string ⟨#[]⟩, .string ⟨#[]⟩], .bool false] := by
  unfold meetV meetF meetT; rw [h]; rfl
theorem meetV_yes {f t g u : ByteArray} (h : meet f.data.toList t.data.toList g.data.toList u.data.toList = true) : meetV f t g u = .tuple #[.agg #[.string (bmx f g), .string (bmn t u)], .bool true] := by
  unfold meetV meetF meetT; rw [h]; rfl
theorem meet_eq (f t g u : ByteArray) : meet f.data.toList t.data.toList g.data.toList u.data.toList = (vr f.data.toList t.data.toList && vr g.data.toList u.data.toList && vr (bmx f g).data.toList (bmn t u).data.toList) := by
  rw [bmx_list, bmn_list]; rfl
theorem bmx_size {a b : ByteArray} {n : Nat} (ha : a.size ≤ n) (hb : b.size ≤ n) : (bmx a b).size ≤ n := by unfold bmx; split <;> assumption
theorem bmn_size {a b : ByteArray} {n : Nat} (ha : a.size ≤ n) (hb : b.size ≤ n) : (bmn a b).size ≤ n := by unfold bmn; split <;> assumption
/-- the world as Intersect's body begins -/
def meetWorld (w : World) (f t g u : ByteArray) : World := ((w.alloc (.cells #[.string f, .string t] 23)).alloc (.cells #[.string g, .string u] 23)).alloc (.cells #[.string ⟨#[]⟩, .string ⟨#[]⟩] 23)
structure Meets (w w1 : World) (f t g u : ByteArray) : Prop where
  one : Has w1 w.heap.size f t
  two : Has w1 (w.heap.size + 1) g u
  res : Mine w1 (w.heap.size + 1 + 1)
  below : Below w.heap.size w w1
  size : w.heap.size + 3 ≤ w1.heap.size
theorem Meets.new (w : World) (f t g u : ByteArray) : Meets w (meetWorld w f t g u) f t g u := by
  unfold meetWorld
  refine ⟨⟨by go_simp, by go_simp⟩, ⟨by go_simp, by go_simp⟩, ⟨⟨⟨#[]⟩, ⟨#[]⟩, by go_simp, by go_simp⟩, by go_simp, by go_simp⟩, ?_, by simp⟩
  exact (below_boxes w f t g u).alloc (by simp <;> omega) _
theorem Meets.step {w w1 w2 : World} {f t g u : ByteArray} (h : Meets w w1 f t g u) (hb : Below w1.heap.size w1 w2) : Meets w w2 f t g u := by
  have hs := h.size
  have hz := hb.size
  exact ⟨h.one.below hb (by omega), h.two.below hb (by omega), h.res.below hb (by omega), below_2 h.below hb, by omega⟩
theorem Meets.alloc {w w1 : World} {f t g u : ByteArray} (h : Meets w w1 f t g u) (o : Obj) : Meets w (w1.alloc o) f t g u := h.step ((Below.refl _ _).alloc (Nat.le_refl _) o)
set_option maxRecDepth 100000 in
theorem intersect_any (f t g u : ByteArray) (hf : f.size ≤ 281474976710656) (ht : t.size ≤ 281474976710656) (hg : g.size ≤ 281474976710656) (hu : u.size ≤ 281474976710656) (w : World) :
    Calls Try.prog 15 #[.agg #[.string f, .string t], .agg #[.string g, .string u]] w fun e w' => e = .returned (meetV f t g u) ∧ Below w.heap.size w w' := by
  have h1 := vrange_any f t (by omega) (by omega)
  have h2 := vrange_any g u (by omega) (by omega)
  have h3 := ends_any u t
  have zm := bmx_size hf hg
  have zn := bmn_size ht hu
  have h4 := newRange_any (bmx f g) (bmn t u) zm zn
  have h5 := vrange_any (bmx f g) (bmn t u) (by omega) (by omega)
  have HM := Lib.hid (Meets.new w f t g u)
  have HV := Lib.hid (meet_eq f t g u)
  have HN := Lib.hid (meetV_no (f := f) (t := t) (g := g) (u := u))
  have HY := Lib.hid (meetV_yes (f := f) (t := t) (g := g) (u := u))
  have hmax : ∀ (w : World) (ts : Array TypeId) (t : TypeId), (Builtin.max_ ts t #[.string f, .string g]).run Try.prog w = .ok (.string (bmx f g)) w := fun w ts t => run_max_strs Try.prog w ts t f g
  have HT : Hid (bmn t u = if ends u.data.toList t.data.toList then u else t) := rfl
  generalize meetV f t g u = V at HN HY
  generalize meet f.data.toList t.data.toList g.data.toList u.data.toList = M at HV HN HY
  generalize vr f.data.toList t.data.toList = A at h1 HV
  generalize vr g.data.toList u.data.toList = B at h2 HV
  generalize vr (bmx f g).data.toList (bmn t u).data.toList = C at h5 HV
  generalize ends u.data.toList t.data.toList = E at h3 HT
  generalize bmx f g = m at h4 h5 HY hmax
  generalize bmn t u = n at h4 h5 HY HT
  have H1 := Lib.hid h1
  have H2 := Lib.hid h2
  have H3 := Lib.hid h3
  have H4 := Lib.hid h4
  have H5 := Lib.hid h5
  clear h1 h2 h3 h4 h5 zm zn
  cases A
  · go_enter Try.func15, Try.ntmps15
    go_wp2_with fail
    refine (H1.out _).mono ?_; rintro e w1 ⟨rfl, hb1⟩
    have HM1 := Lib.hid (HM.out.step hb1)
    obtain ⟨⟨a0, a1⟩, ⟨b0, b1⟩, ⟨⟨x, y, c0, c1⟩, d0, d1⟩, hbw, hsz⟩ := HM1.out
    go_wp2_with fail
    obtain ⟨q0, q1⟩ := stored c0 c1 ⟨#[]⟩ ⟨#[]⟩
    refine bodyPost_ret (v := .tuple #[.agg #[.string ⟨#[]⟩, .string ⟨#[]⟩], .bool false]) (by simp [results, Try.results15, go_sem, q0, q1]) rfl ⟨?_, (hbw.setCell (by simp <;> omega) _).setCell (by simp <;> omega) _⟩
    rw [HN.out (by rw [HV.out]; rfl)]
  · cases B
    · go_enter Try.func15, Try.ntmps15
      go_wp2_with fail
      refine (H1.out _).mono ?_; rintro e w1 ⟨rfl, hb1⟩
      have HM1 := Lib.hid (HM.out.step hb1)
      obtain ⟨⟨a0, a1⟩, ⟨b0, b1⟩, _⟩ := HM1.out
      go_wp2_with fail
      refine (H2.out _).mono ?_; rintro e w2 ⟨rfl, hb2⟩
      obtain ⟨⟨a2, a3⟩, ⟨b2, b3⟩, ⟨⟨x, y, c0, c1⟩, d0, d1⟩, hbw, hsz⟩ := HM1.out.step hb2
      go_wp2_with fail
      obtain ⟨q0, q1⟩ := stored c0 c1 ⟨#[]⟩ ⟨#[]⟩
      refine bodyPost_ret (v := .tuple #[.agg #[.string ⟨#[]⟩, .string ⟨#[]⟩], .bool false]) (by simp [results, Try.results15, go_sem, q0, q1]) rfl ⟨?_, (hbw.setCell (by simp <;> omega) _).setCell (by simp <;> omega) _⟩
      rw [HN.out (by rw [HV.out]; rfl)]
    · cases E
      · cases C
        · have hn : n = t := by rw [HT.out]; rfl
          subst hn
          go_enter Try.func15, Try.ntmps15
          go_wp2_with fail
          refine (H1.out _).mono ?_; rintro e w1 ⟨rfl, hb1⟩
          have HM1 := Lib.hid (HM.out.step hb1)
          obtain ⟨⟨a0, a1⟩, ⟨b0, b1⟩, _⟩ := HM1.out
          go_wp2_with fail
          refine (H2.out _).mono ?_; rintro e w2 ⟨rfl, hb2⟩
          have HM2 := Lib.hid (HM1.out.step hb2)
          obtain ⟨⟨a2, a3⟩, ⟨b2, b3⟩, _⟩ := HM2.out
          go_wp2_with fail
          refine (H3.out _).mono ?_; rintro e w' ⟨rfl, rfl⟩
          go_wp2_with fail
          refine (H4.out _).mono ?_; rintro e w3 ⟨rfl, hb3⟩
          have HM3 := Lib.hid ((HM2.out.step hb3).alloc (.cells #[.string m, .string n] 23))
          have HP := Lib.hid (Has.box w3 m n)
          go_wp2_with fail
          refine (H5.out _).mono ?_; rintro e w4 ⟨rfl, hb4⟩
          obtain ⟨_, _, ⟨⟨x, y, c0, c1⟩, d0, d1⟩, hbw, hsz⟩ := HM3.out.step hb4
          go_wp2_with fail
          obtain ⟨q0, q1⟩ := stored c0 c1 ⟨#[]⟩ ⟨#[]⟩
          refine bodyPost_ret (v := .tuple #[.agg #[.string ⟨#[]⟩, .string ⟨#[]⟩], .bool false]) (by simp [results, Try.results15, go_sem, q0, q1]) rfl ⟨?_, (hbw.setCell (by simp <;> omega) _).setCell (by simp <;> omega) _⟩
          rw [HN.out (by rw [HV.out]; rfl)]
        · have hn : n = t := by rw [HT.out]; rfl
          subst hn
          go_enter Try.func15, Try.ntmps15
          go_wp2_with fail
          refine (H1.out _).mono ?_; rintro e w1 ⟨rfl, hb1⟩
          have HM1 := Lib.hid (HM.out.step hb1)
          obtain ⟨⟨a0, a1⟩, ⟨b0, b1⟩, _⟩ := HM1.out
          go_wp2_with fail
          refine (H2.out _).mono ?_; rintro e w2 ⟨rfl, hb2⟩
          have HM2 := Lib.hid (HM1.out.step hb2)
          obtain ⟨⟨a2, a3⟩, ⟨b2, b3⟩, _⟩ := HM2.out
          go_wp2_with fail
          refine (H3.out _).mono ?_; rintro e w' ⟨rfl, rfl⟩
          go_wp2_with fail
          refine (H4.out _).mono ?_; rintro e w3 ⟨rfl, hb3⟩
          have HM3 := Lib.hid ((HM2.out.step hb3).alloc (.cells #[.string m, .string n] 23))
          have HP := Lib.hid (Has.box w3 m n)
          go_wp2_with fail
          refine (H5.out _).mono ?_; rintro e w4 ⟨rfl, hb4⟩
          obtain ⟨_, _, ⟨⟨x, y, c0, c1⟩, d0, d1⟩, hbw, hsz⟩ := HM3.out.step hb4
          obtain ⟨p0, p1⟩ := HP.out.below hb4 (by simp)
          go_wp2_with fail
          obtain ⟨q0, q1⟩ := stored c0 c1 m n
          refine bodyPost_ret (v := .tuple #[.agg #[.string m, .string n], .bool true]) (by simp [results, Try.results15, go_sem, q0, q1]) rfl ⟨?_, (hbw.setCell (by simp <;> omega) _).setCell (by simp <;> omega) _⟩
          rw [HY.out (by rw [HV.out]; rfl)]
      · cases C
        · have hn : n = u := by rw [HT.out]; rfl
          subst hn
          go_enter Try.func15, Try.ntmps15
          go_wp2_with fail
          refine (H1.out _).mono ?_; rintro e w1 ⟨rfl, hb1⟩
          have HM1 := Lib.hid (HM.out.step hb1)
          obtain ⟨⟨a0, a1⟩, ⟨b0, b1⟩, _⟩ := HM1.out
          go_wp2_with fail
          refine (H2.out _).mono ?_; rintro e w2 ⟨rfl, hb2⟩
          have HM2 := Lib.hid (HM1.out.step hb2)
          obtain ⟨⟨a2, a3⟩, ⟨b2, b3⟩, _⟩ := HM2.out
          go_wp2_with fail
          refine (H3.out _).mono ?_; rintro e w' ⟨rfl, rfl⟩
          go_wp2_with fail
          refine (H4.out _).mono ?_; rintro e w3 ⟨rfl, hb3⟩
          have HM3 := Lib.hid ((HM2.out.step hb3).alloc (.cells #[.string m, .string n] 23))
          have HP := Lib.hid (Has.box w3 m n)
          go_wp2_with fail
          refine (H5.out _).mono ?_; rintro e w4 ⟨rfl, hb4⟩
          obtain ⟨_, _, ⟨⟨x, y, c0, c1⟩, d0, d1⟩, hbw, hsz⟩ := HM3.out.step hb4
          go_wp2_with fail
          obtain ⟨q0, q1⟩ := stored c0 c1 ⟨#[]⟩ ⟨#[]⟩
          refine bodyPost_ret (v := .tuple #[.agg #[.string ⟨#[]⟩, .string ⟨#[]⟩], .bool false]) (by simp [results, Try.results15, go_sem, q0, q1]) rfl ⟨?_, (hbw.setCell (by simp <;> omega) _).setCell (by simp <;> omega) _⟩
          rw [HN.out (by rw [HV.out]; rfl)]
        · have hn : n = u := by rw [HT.out]; rfl
          subst hn
          go_enter Try.func15, Try.ntmps15
          go_wp2_with fail
          refine (H1.out _).mono ?_; rintro e w1 ⟨rfl, hb1⟩
          have HM1 := Lib.hid (HM.out.step hb1)
          obtain ⟨⟨a0, a1⟩, ⟨b0, b1⟩, _⟩ := HM1.out
          go_wp2_with fail
          refine (H2.out _).mono ?_; rintro e w2 ⟨rfl, hb2⟩
          have HM2 := Lib.hid (HM1.out.step hb2)
          obtain ⟨⟨a2, a3⟩, ⟨b2, b3⟩, _⟩ := HM2.out
          go_wp2_with fail
          refine (H3.out _).mono ?_; rintro e w' ⟨rfl, rfl⟩
          go_wp2_with fail
          refine (H4.out _).mono ?_; rintro e w3 ⟨rfl, hb3⟩
          have HM3 := Lib.hid ((HM2.out.step hb3).alloc (.cells #[.string m, .string n] 23))
          have HP := Lib.hid (Has.box w3 m n)
          go_wp2_with fail
          refine (H5.out _).mono ?_; rintro e w4 ⟨rfl, hb4⟩
          obtain ⟨_, _, ⟨⟨x, y, c0, c1⟩, d0, d1⟩, hbw, hsz⟩ := HM3.out.step hb4
          obtain ⟨p0, p1⟩ := HP.out.below hb4 (by simp)
          go_wp2_with fail
          obtain ⟨q0, q1⟩ := stored c0 c1 m n
          refine bodyPost_ret (v := .tuple #[.agg #[.string m, .string n], .bool true]) (by simp [results, Try.results15, go_sem, q0, q1]) rfl ⟨?_, (hbw.setCell (by simp <;> omega) _).setCell (by simp <;> omega) _⟩
          rw [HY.out (by rw [HV.out]; rfl)]
end Go.Proofs.Ytbakojnapikfeaa
