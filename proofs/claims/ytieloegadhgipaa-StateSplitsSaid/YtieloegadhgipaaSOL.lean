/-
  What the program's own decodePair of layer 6 returns: its contract.
-/
import Derived.Test.YtieloegadhgipaaSOK
namespace Go.Proofs.Ytieloegadhgipaa.S
open Go.RowKit
open Go.Proofs.Ytieloegadhgipaa.V (ret_bool ret_int ret_string below_2 below_box below_box2 size_len tripV)

/-- block b is the call's own, holds a pair and may be written -/
structure MineP (w : World) (b : Nat) : Prop where
  cells : ∃ p, At w b 0 p
  free : w.frozen? ⟨b, 0, none⟩ = false ∧ w.frozen? ⟨b, 1, none⟩ = false ∧ w.frozen? ⟨b, 2, none⟩ = false ∧ w.frozen? ⟨b, 3, none⟩ = false
theorem MineP.below {w w' : World} {b B : Nat} (h : MineP w b) (hb : Below B w w') (hB : b < B) : MineP w' b := by
  obtain ⟨⟨p, h1⟩, h2, h3, h4, h5⟩ := h
  exact ⟨⟨p, h1.below hb hB⟩, (hb.frozen (by exact hB)).trans h2, (hb.frozen (by exact hB)).trans h3, (hb.frozen (by exact hB)).trans h4, (hb.frozen (by exact hB)).trans h5⟩
theorem MineP.lt {w : World} {b : Nat} (h : MineP w b) : b < w.heap.size := by
  obtain ⟨⟨p, h1⟩, _⟩ := h
  exact h1.lt
theorem MineP.new (w : World) (p : P) : MineP (w.alloc (.cells #[.string p.key, .int .i64 p.k, .int .i64 p.n, .string p.s] 33)) w.heap.size := ⟨⟨p, at_box w p⟩, by go_simp, by go_simp, by go_simp, by go_simp⟩
def zeroP : P := ⟨⟨#[]⟩, 0, 0, ⟨#[]⟩⟩
theorem MineP.zero (w : World) : MineP (w.alloc (.cells #[.string ⟨#[]⟩, .int .i64 0, .int .i64 0, .string ⟨#[]⟩] 33)) w.heap.size := MineP.new w zeroP
theorem storedP {w : World} {b : Nat} {p : P} (h : At w b 0 p) (q : P) :
    At ((((w.setCell ⟨b, 0, none⟩ (.string q.key)).setCell ⟨b, 1, none⟩ (.int .i64 q.k)).setCell ⟨b, 2, none⟩ (.int .i64 q.n)).setCell ⟨b, 3, none⟩ (.string q.s)) b 0 q := by
  obtain ⟨h1, h2, h3, h4⟩ := h
  simp only [Nat.zero_add] at h1 h2 h3 h4
  exact ⟨by go_simp, by go_simp, by go_simp, by go_simp⟩
theorem storedP_below {w w1 : World} {b B : Nat} (h : Below B w w1) (hb : B ≤ b) (x y z u : Value) : Below B w ((((w1.setCell ⟨b, 0, none⟩ x).setCell ⟨b, 1, none⟩ y).setCell ⟨b, 2, none⟩ z).setCell ⟨b, 3, none⟩ u) :=
  (((h.setCell hb _).setCell hb _).setCell hb _).setCell hb _
/-- what decodePair returns -/
def dpV (l : List UInt8) (a : Int) : P × Int × Int :=
  if W.xE l a 24 = 0 then (if (V.ds l (W.xN l a 24)).2.2 = 0 then (ofPr (W.xV l a 24, (V.ds l (W.xN l a 24)).1), (V.ds l (W.xN l a 24)).2.1, 0) else (zeroP, 0, (V.ds l (W.xN l a 24)).2.2)) else (zeroP, 0, W.xE l a 24)
def pairV (r : P × Int × Int) : Value := .tuple #[.agg #[.string r.1.key, .int .i64 r.1.k, .int .i64 r.1.n, .string r.1.s], .int .i64 r.2.1, .int .i64 r.2.2]
set_option maxHeartbeats 4000000 in
set_option maxRecDepth 100000 in
theorem odp_any (s : ByteArray) (hs : s.size ≤ 1000000000000) (a : Int) (h0 : -9223372036854775808 ≤ a) (h1 : a ≤ 9223372036854775807) (w : World) :
    Calls Try.prog 47 #[.string s, .int .i64 a] w fun e w' => e = .returned (pairV (dpV s.data.toList a)) ∧ Below w.heap.size w w' := by
  have HM := Lib.hid (MineP.zero w)
  have HW := Lib.hid (fun x => below_box w (.cells x 33))
  have HX := Lib.hid (W.takeText_any s a 24 h0 h1 (by decide) (by decide) hs)
  have hsl := size_len s
  by_cases ex : W.xE s.data.toList a 24 = 0
  · have hxb := x_bd ex
    have HD := Lib.hid (V.odec_any s hs (W.xN s.data.toList a 24) (by omega) (by omega))
    simp only [tripV] at HD
    rw [ex] at HX
    by_cases ed : (V.ds s.data.toList (W.xN s.data.toList a 24)).2.2 = 0
    · have HV : Hid (dpV s.data.toList a = (ofPr (W.xV s.data.toList a 24, (V.ds s.data.toList (W.xN s.data.toList a 24)).1), (V.ds s.data.toList (W.xN s.data.toList a 24)).2.1, 0)) := by
        show _ = _; unfold dpV; rw [if_pos ex, if_pos ed]
      rw [ed] at HD
      rw [HV.out]
      clear ex ed hxb HV
      simp only [pairV, ofPr]
      generalize (V.ds s.data.toList (W.xN s.data.toList a 24)).2.1 = nx at HD ⊢
      generalize (V.ds s.data.toList (W.xN s.data.toList a 24)).1 = v at HD ⊢
      generalize ByteArray.mk (W.xV s.data.toList a 24).toArray = T at HX ⊢
      generalize W.xN s.data.toList a 24 = N at HX HD
      generalize ByteArray.mk v.s.toArray = S at HD ⊢
      obtain ⟨vk, vn, vs⟩ := v
      simp only at HD ⊢
      go_enter Try.func47, Try.ntmps47
      go_wp2_with fail
      refine (HX.out _).mono ?_; rintro e w1 ⟨rfl, hb1⟩
      have HM1 := Lib.hid (HM.out.below hb1 (by simp))
      have HB1 := Lib.hid (below_2 (HW.out _) hb1)
      clear hb1
      go_wp2_with fail
      refine (HD.out _).mono ?_; rintro e w2 ⟨rfl, hb2⟩
      obtain ⟨⟨p, d0, d1, d2, d3⟩, g0, g1, g2, g3⟩ := (HM1.out.below hb2 HM1.out.lt).below (below_box w2 (.cells #[.int .i64 vk, .int .i64 vn, .string S] 30)) (HM1.out.below hb2 HM1.out.lt).lt
      simp only [Nat.zero_add] at d0 d1 d2 d3
      have HB2 := Lib.hid (below_2 (below_2 HB1.out hb2) (below_box w2 (.cells #[.int .i64 vk, .int .i64 vn, .string S] 30)))
      go_wp2_with fail
      obtain ⟨q0, q1, q2, q3⟩ := storedP (w := w2.alloc (.cells #[.int .i64 vk, .int .i64 vn, .string S] 30)) (b := w.heap.size) (p := p) ⟨d0, d1, d2, d3⟩ ⟨T, vk, vn, S⟩
      simp only [Nat.zero_add] at q0 q1 q2 q3
      refine bodyPost_ret (v := .tuple #[.agg #[.string T, .int .i64 vk, .int .i64 vn, .string S], .int .i64 nx, .int .i64 0]) (by simp [results, Try.results47, go_sem, q0, q1, q2, q3]) rfl ⟨rfl, storedP_below HB2.out (Nat.le_refl _) _ _ _ _⟩
    · have HV : Hid (dpV s.data.toList a = (zeroP, 0, (V.ds s.data.toList (W.xN s.data.toList a 24)).2.2)) := by
        show _ = _; unfold dpV; rw [if_pos ex, if_neg ed]
      have bE : ((V.ds s.data.toList (W.xN s.data.toList a 24)).2.2 != 0) = true := bne_iff_ne.2 ed
      rw [HV.out]
      clear ex ed hxb HV
      simp only [pairV, zeroP]
      generalize (V.ds s.data.toList (W.xN s.data.toList a 24)).2.2 = E at HD bE ⊢
      generalize (V.ds s.data.toList (W.xN s.data.toList a 24)).2.1 = nx at HD
      generalize (V.ds s.data.toList (W.xN s.data.toList a 24)).1 = v at HD
      generalize ByteArray.mk (W.xV s.data.toList a 24).toArray = T at HX
      generalize W.xN s.data.toList a 24 = N at HX HD
      generalize ByteArray.mk v.s.toArray = S at HD
      obtain ⟨vk, vn, vs⟩ := v
      simp only at HD
      go_enter Try.func47, Try.ntmps47
      go_wp2_with fail
      refine (HX.out _).mono ?_; rintro e w1 ⟨rfl, hb1⟩
      have HM1 := Lib.hid (HM.out.below hb1 (by simp))
      have HB1 := Lib.hid (below_2 (HW.out _) hb1)
      clear hb1
      go_wp2_with fail
      refine (HD.out _).mono ?_; rintro e w2 ⟨rfl, hb2⟩
      obtain ⟨⟨p, d0, d1, d2, d3⟩, g0, g1, g2, g3⟩ := (HM1.out.below hb2 HM1.out.lt).below (below_box w2 (.cells #[.int .i64 vk, .int .i64 vn, .string S] 30)) (HM1.out.below hb2 HM1.out.lt).lt
      simp only [Nat.zero_add] at d0 d1 d2 d3
      have HB2 := Lib.hid (below_2 (below_2 HB1.out hb2) (below_box w2 (.cells #[.int .i64 vk, .int .i64 vn, .string S] 30)))
      go_wp2_with fail
      obtain ⟨q0, q1, q2, q3⟩ := storedP (w := w2.alloc (.cells #[.int .i64 vk, .int .i64 vn, .string S] 30)) (b := w.heap.size) (p := p) ⟨d0, d1, d2, d3⟩ ⟨⟨#[]⟩, 0, 0, ⟨#[]⟩⟩
      simp only [Nat.zero_add] at q0 q1 q2 q3
      refine bodyPost_ret (v := .tuple #[.agg #[.string ⟨#[]⟩, .int .i64 0, .int .i64 0, .string ⟨#[]⟩], .int .i64 0, .int .i64 E]) (by simp [results, Try.results47, go_sem, q0, q1, q2, q3]) rfl ⟨rfl, storedP_below HB2.out (Nat.le_refl _) _ _ _ _⟩
  · have HV : Hid (dpV s.data.toList a = (zeroP, 0, W.xE s.data.toList a 24)) := by
      show _ = _; unfold dpV; rw [if_neg ex]
    have bE : (W.xE s.data.toList a 24 != 0) = true := bne_iff_ne.2 ex
    rw [HV.out]
    clear ex HV
    simp only [pairV, zeroP]
    generalize W.xE s.data.toList a 24 = E at HX bE ⊢
    generalize ByteArray.mk (W.xV s.data.toList a 24).toArray = T at HX
    generalize W.xN s.data.toList a 24 = N at HX
    go_enter Try.func47, Try.ntmps47
    go_wp2_with fail
    refine (HX.out _).mono ?_; rintro e w1 ⟨rfl, hb1⟩
    obtain ⟨⟨p, d0, d1, d2, d3⟩, g0, g1, g2, g3⟩ := HM.out.below hb1 (by simp)
    simp only [Nat.zero_add] at d0 d1 d2 d3
    have HB1 := Lib.hid (below_2 (HW.out _) hb1)
    go_wp2_with fail
    obtain ⟨q0, q1, q2, q3⟩ := storedP (w := w1) (b := w.heap.size) (p := p) ⟨d0, d1, d2, d3⟩ ⟨⟨#[]⟩, 0, 0, ⟨#[]⟩⟩
    simp only [Nat.zero_add] at q0 q1 q2 q3
    refine bodyPost_ret (v := .tuple #[.agg #[.string ⟨#[]⟩, .int .i64 0, .int .i64 0, .string ⟨#[]⟩], .int .i64 0, .int .i64 E]) (by simp [results, Try.results47, go_sem, q0, q1, q2, q3]) rfl ⟨rfl, storedP_below HB1.out (Nat.le_refl _) _ _ _ _⟩
end Go.Proofs.Ytieloegadhgipaa.S
