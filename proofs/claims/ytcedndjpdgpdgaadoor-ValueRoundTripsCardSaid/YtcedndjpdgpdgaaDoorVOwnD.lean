/-
  What the program's own Encode, decodeInt, decodeString and Decode return: contracts, one a function.
-/
import Derived.Test.YtcedndjpdgpdgaaDoorVOwnA
namespace Go.Proofs.YtcedndjpdgpdgaaDoor.V
open Go.RowKit

set_option maxHeartbeats 1000000 in
set_option maxRecDepth 100000 in
theorem oenc_any (k n : Int) (h0 : -9223372036854775808 ≤ n) (h1 : n ≤ 9223372036854775807) (s : ByteArray) (hs : s.size ≤ 1000000) (w : World) :
    Calls Tryd.prog 24 #[.agg #[.int .i64 k, .int .i64 n, .string s]] w fun e w' => e = .returned (.string ⟨(enc ⟨k, n, s.data.toList⟩).toArray⟩) ∧ Below w.heap.size w w' := by
  obtain ⟨a0, a1, a2⟩ := Has.box w k n s
  have r0 := fun d os => cell_regrown a0 d os
  have r1 := fun d os => cell_regrown a1 d os
  have r2 := fun d os => cell_regrown a2 d os
  clear a0 a1 a2
  have HW := Lib.hid (below_box w (.cells #[.int .i64 k, .int .i64 n, .string s] 23))
  by_cases k1 : k = 1
  · subst k1
    have HE := Lib.hid (enc_1 n s)
    have g1 : ∀ w, Calls Tryd.prog 45 #[.int .u64 1] w fun e w' => e = .returned (.string ⟨(Lib.uvarint 1).toArray⟩) ∧ Below w.heap.size w w' := W.uint_any 1 (by decide)
    have g2 := W.int_any n h0 h1
    have z1 := W.uv_size (x := 1) (by decide)
    have z2 := int_size h0 h1
    generalize ByteArray.mk (Lib.uvarint 1).toArray = a at g1 HE z1
    generalize ByteArray.mk (W.intText n).toArray = b at g2 HE z2
    have C1 := Lib.hid (fun W d os => Calls.regrown_of (w := W) (d := d) (os := os) (g1 _))
    have C2 := Lib.hid (fun W d os => Calls.regrown_of (w := W) (d := d) (os := os) (g2 _))
    clear g1 g2
    go_enter Tryd.func24, Tryd.ntmps24
    go_wp2_with fail
    refine wp_region_quiet_below (by kernel_rfl) (by kernel_rfl) ?_
    repeat (go_big_quiet_step (first | with_reducible exact C1.out _ _ _ | with_reducible exact C2.out _ _ _))
    refine wpQuiet_nil ?_
    intro _ hw'
    obtain ⟨⟨dq, osq⟩, hw''⟩ := hw'
    subst hw''
    go_wp2_with fail
    go_ret
    exact ⟨ret_string HE.out.symm, below_2 HW.out (below_regrown _ _ _)⟩
  · by_cases k2 : k = 2
    · subst k2
      have HE := Lib.hid (enc_2 n s)
      have g1 : ∀ w, Calls Tryd.prog 45 #[.int .u64 2] w fun e w' => e = .returned (.string ⟨(Lib.uvarint 2).toArray⟩) ∧ Below w.heap.size w w' := W.uint_any 2 (by decide)
      have g2 := W.text_any s hs
      have z1 := W.uv_size (x := 2) (by decide)
      have z2 := text_size hs
      generalize ByteArray.mk (Lib.uvarint 2).toArray = a at g1 HE z1
      generalize ByteArray.mk (W.text s.data.toList).toArray = b at g2 HE z2
      have C1 := Lib.hid (fun W d os => Calls.regrown_of (w := W) (d := d) (os := os) (g1 _))
      have C2 := Lib.hid (fun W d os => Calls.regrown_of (w := W) (d := d) (os := os) (g2 _))
      clear g1 g2 k1
      go_enter Tryd.func24, Tryd.ntmps24
      go_wp2_with fail
      refine wp_region_quiet_below (by kernel_rfl) (by kernel_rfl) ?_
      repeat (go_big_quiet_step (first | with_reducible exact C1.out _ _ _ | with_reducible exact C2.out _ _ _))
      refine wpQuiet_nil ?_
      intro _ hw'
      obtain ⟨⟨dq, osq⟩, hw''⟩ := hw'
      subst hw''
      go_wp2_with fail
      go_ret
      exact ⟨ret_string HE.out.symm, below_2 HW.out (below_regrown _ _ _)⟩
    · have HE := Lib.hid (enc_0 n s k1 k2)
      have b1 : (k == 1) = false := beq_eq_false_iff_ne.2 k1
      have b2 : (k == 2) = false := beq_eq_false_iff_ne.2 k2
      have g1 : ∀ w, Calls Tryd.prog 45 #[.int .u64 0] w fun e w' => e = .returned (.string ⟨(Lib.uvarint 0).toArray⟩) ∧ Below w.heap.size w w' := W.uint_any 0 (by decide)
      have G1 := Lib.hid g1
      clear g1 k1 k2 r0 r1 r2
      go_enter Tryd.func24, Tryd.ntmps24
      go_wp2_with fail
      refine (G1.out _).mono ?_; rintro e w1 ⟨rfl, hb1⟩
      go_wp2_with fail
      go_ret
      exact ⟨ret_string HE.out.symm, below_2 HW.out hb1⟩


/-! ### Decode -/

/-- what decodeInt returns -/
def diV (l : List UInt8) (a : Int) : Value := if W.tE l a = 0 then .tuple #[.agg #[.int .i64 1, .int .i64 (W.iV l a), .string ⟨#[]⟩], .int .i64 (W.tN l a), .int .i64 0] else noV (W.tE l a)
/-- what decodeString returns -/
def dxV (l : List UInt8) (a : Int) : Value := if W.xE l a 64 = 0 then (if plain (W.xV l a 64) then .tuple #[.agg #[.int .i64 2, .int .i64 0, .string ⟨(W.xV l a 64).toArray⟩], .int .i64 (W.xN l a 64), .int .i64 0] else noV 5) else noV (W.xE l a 64)
theorem trip_int_all {l : List UInt8} {a : Int} (h : W.tE l a = 0) (h2 : W.tV l a = 1) : tripV (ds l a) = diV l (W.tN l a) := by
  unfold diV
  by_cases h3 : W.tE l (W.tN l a) = 0
  · rw [if_pos h3]; exact trip_int h h2 h3
  · rw [if_neg h3]; exact trip_int_err h h2 h3
theorem trip_str_all {l : List UInt8} {a : Int} (h : W.tE l a = 0) (h2 : W.tV l a = 2) : tripV (ds l a) = dxV l (W.tN l a) := by
  unfold dxV
  by_cases h3 : W.xE l (W.tN l a) 64 = 0
  · rw [if_pos h3]
    cases h4 : plain (W.xV l (W.tN l a) 64)
    · exact trip_str_bad h h2 h3 h4
    · exact trip_str h h2 h3 h4
  · rw [if_neg h3]; exact trip_str_err h h2 h3
theorem diV_form (l : List UInt8) (a : Int) : ∃ k n t N E, diV l a = .tuple #[.agg #[.int .i64 k, .int .i64 n, .string t], .int .i64 N, .int .i64 E] := by
  unfold diV; split <;> exact ⟨_, _, _, _, _, rfl⟩
theorem dxV_form (l : List UInt8) (a : Int) : ∃ k n t N E, dxV l a = .tuple #[.agg #[.int .i64 k, .int .i64 n, .string t], .int .i64 N, .int .i64 E] := by
  unfold dxV; split
  · split <;> exact ⟨_, _, _, _, _, rfl⟩
  · exact ⟨_, _, _, _, _, rfl⟩
set_option maxHeartbeats 1000000 in
set_option maxRecDepth 100000 in
theorem odi_any (s : ByteArray) (hs : s.size ≤ 1000000) (a : Int) (h0 : -9223372036854775808 ≤ a) (h1 : a ≤ 9223372036854775807) (w : World) :
    Calls Tryd.prog 52 #[.string s, .int .i64 a] w fun e w' => e = .returned (diV s.data.toList a) ∧ Below w.heap.size w w' := by
  have HM := Lib.hid (Mine.new w 0 0 ⟨#[]⟩)
  have HW := Lib.hid (fun x y z => below_box w (.cells #[.int .i64 x, .int .i64 y, .string z] 23))
  have HI := Lib.hid (W.takeInt_any s a h0 h1 hs)
  have HR := Lib.hid (oint_any (W.iV s.data.toList a))
  unfold diV
  by_cases e1 : W.tE s.data.toList a = 0
  · rw [if_pos e1]
    rw [e1] at HI
    generalize W.iV s.data.toList a = n at HI HR ⊢
    generalize W.tN s.data.toList a = M at HI ⊢
    clear e1
    go_enter Tryd.func52, Tryd.ntmps52
    go_wp2_with fail
    refine (HI.out _).mono ?_; rintro e w1 ⟨rfl, rfl⟩
    go_wp2_with fail
    refine (HR.out _).mono ?_; rintro e w2 ⟨rfl, hb2⟩
    obtain ⟨⟨x0, x1, x2, c0, c1, c2⟩, d0, d1, d2⟩ := HM.out.below hb2 (by simp)
    go_wp2_with fail
    obtain ⟨q0, q1, q2⟩ := stored ⟨c0, c1, c2⟩ 1 n ⟨#[]⟩
    refine bodyPost_ret (v := .tuple #[.agg #[.int .i64 1, .int .i64 n, .string ⟨#[]⟩], .int .i64 M, .int .i64 0]) (by simp [results, Tryd.results52, go_sem, q0, q1, q2]) rfl ⟨?_, stored_below (below_2 (HW.out _ _ _) hb2) (Nat.le_refl _) _ _ _⟩
    rfl
  · rw [if_neg e1]
    have bE : (W.tE s.data.toList a != 0) = true := bne_iff_ne.2 e1
    generalize W.tE s.data.toList a = E at HI bE ⊢
    generalize W.iV s.data.toList a = n at HI
    generalize W.tN s.data.toList a = M at HI
    clear e1 HR
    go_enter Tryd.func52, Tryd.ntmps52
    go_wp2_with fail
    refine (HI.out _).mono ?_; rintro e w1 ⟨rfl, rfl⟩
    go_wp2_with fail
    refine bodyPost_ret (v := .tuple #[.agg #[.int .i64 0, .int .i64 0, .string ⟨#[]⟩], .int .i64 0, .int .i64 E]) (by simp [results, Tryd.results52, go_sem]) rfl ⟨?_, HW.out _ _ _⟩
    rfl
set_option maxHeartbeats 1000000 in
set_option maxRecDepth 100000 in
theorem odx_any (s : ByteArray) (hs : s.size ≤ 1000000) (a : Int) (h0 : -9223372036854775808 ≤ a) (h1 : a ≤ 9223372036854775807) (w : World) :
    Calls Tryd.prog 53 #[.string s, .int .i64 a] w fun e w' => e = .returned (dxV s.data.toList a) ∧ Below w.heap.size w w' := by
  have HM := Lib.hid (Mine.new w 0 0 ⟨#[]⟩)
  have HW := Lib.hid (fun x y z => below_box w (.cells #[.int .i64 x, .int .i64 y, .string z] 23))
  have HX := Lib.hid (W.takeText_any s a 64 h0 h1 (by decide) (by decide) hs)
  have HP := Lib.hid (oplain_any ⟨(W.xV s.data.toList a 64).toArray⟩ (by have := xV_size (l := s.data.toList) (a := a) (m := 64); rw [← size_len] at this; omega))
  have HPL : Hid (plain (ByteArray.mk (W.xV s.data.toList a 64).toArray).data.toList = plain (W.xV s.data.toList a 64)) := rfl
  rw [HPL.out] at HP
  have HN := Lib.hid (onew_any ⟨(W.xV s.data.toList a 64).toArray⟩)
  unfold dxV
  by_cases e1 : W.xE s.data.toList a 64 = 0
  · rw [if_pos e1]
    rw [e1] at HX
    generalize plain (W.xV s.data.toList a 64) = P at HP ⊢
    generalize ByteArray.mk (W.xV s.data.toList a 64).toArray = t at HX HP HN ⊢
    generalize W.xN s.data.toList a 64 = M at HX ⊢
    clear e1 HPL
    cases P
    · go_enter Tryd.func53, Tryd.ntmps53
      go_wp2_with fail
      refine (HX.out _).mono ?_; rintro e w9 ⟨rfl, hbx⟩
      obtain ⟨⟨x0, x1, x2, c0, c1, c2⟩, d0, d1, d2⟩ := HM.out.below hbx (by simp)
      go_wp2_with fail
      refine (HP.out _).mono ?_; rintro e w2 ⟨rfl, rfl⟩
      go_wp2_with fail
      obtain ⟨q0, q1, q2⟩ := stored ⟨c0, c1, c2⟩ (0) (0) ⟨#[]⟩
      refine bodyPost_ret (v := .tuple #[.agg #[.int .i64 0, .int .i64 0, .string ⟨#[]⟩], .int .i64 0, .int .i64 5]) (by simp [results, Tryd.results53, go_sem, q0, q1, q2]) rfl ⟨?_, stored_below (below_2 (HW.out _ _ _) hbx) (Nat.le_refl _) _ _ _⟩
      rfl
    · go_enter Tryd.func53, Tryd.ntmps53
      go_wp2_with fail
      refine (HX.out _).mono ?_; rintro e w9 ⟨rfl, hbx⟩
      have hzx := hbx.size
      simp at hzx
      go_wp2_with fail
      refine (HP.out _).mono ?_; rintro e w2 ⟨rfl, he⟩; obtain rfl : w9 = w2 := he.symm
      go_wp2_with fail
      refine (HN.out _).mono ?_; rintro e w3 ⟨rfl, hb3⟩
      obtain ⟨⟨x0, x1, x2, c0, c1, c2⟩, d0, d1, d2⟩ := (HM.out.below hbx (by simp)).below hb3 (by omega)
      go_wp2_with fail
      obtain ⟨q0, q1, q2⟩ := stored ⟨c0, c1, c2⟩ (2) (0) t
      refine bodyPost_ret (v := .tuple #[.agg #[.int .i64 2, .int .i64 0, .string t], .int .i64 M, .int .i64 0]) (by simp [results, Tryd.results53, go_sem, q0, q1, q2]) rfl ⟨?_, stored_below (below_2 (below_2 (HW.out _ _ _) hbx) hb3) (Nat.le_refl _) _ _ _⟩
      rfl
  · rw [if_neg e1]
    have bE : (W.xE s.data.toList a 64 != 0) = true := bne_iff_ne.2 e1
    generalize W.xE s.data.toList a 64 = E at HX bE ⊢
    generalize ByteArray.mk (W.xV s.data.toList a 64).toArray = t at HX
    generalize W.xN s.data.toList a 64 = M at HX
    clear e1 HP HN HPL
    go_enter Tryd.func53, Tryd.ntmps53
    go_wp2_with fail
    refine (HX.out _).mono ?_; rintro e w9 ⟨rfl, hbx⟩
    obtain ⟨⟨x0, x1, x2, c0, c1, c2⟩, d0, d1, d2⟩ := HM.out.below hbx (by simp)
    go_wp2_with fail
    obtain ⟨q0, q1, q2⟩ := stored ⟨c0, c1, c2⟩ (0) (0) ⟨#[]⟩
    refine bodyPost_ret (v := .tuple #[.agg #[.int .i64 0, .int .i64 0, .string ⟨#[]⟩], .int .i64 0, .int .i64 E]) (by simp [results, Tryd.results53, go_sem, q0, q1, q2]) rfl ⟨?_, stored_below (below_2 (HW.out _ _ _) hbx) (Nat.le_refl _) _ _ _⟩
    rfl
set_option maxHeartbeats 2000000 in
set_option maxRecDepth 100000 in
theorem odec_any (s : ByteArray) (hs : s.size ≤ 1000000) (a : Int) (h0 : -9223372036854775808 ≤ a) (h1 : a ≤ 9223372036854775807) (w : World) :
    Calls Tryd.prog 26 #[.string s, .int .i64 a] w fun e w' => e = .returned (tripV (ds s.data.toList a)) ∧ Below w.heap.size w w' := by
  have HM := Lib.hid (Mine.new w 0 0 ⟨#[]⟩)
  have HW := Lib.hid (fun x y z => below_box w (.cells #[.int .i64 x, .int .i64 y, .string z] 23))
  have HT := Lib.hid (W.take_any s a h0 h1 (by omega))
  by_cases e0 : W.tE s.data.toList a = 0
  · have hn := W.tN_bd e0
    rw [← size_len] at hn
    have hI := odi_any s hs (W.tN s.data.toList a) (by omega) (by omega)
    have hX := odx_any s hs (W.tN s.data.toList a) (by omega) (by omega)
    clear hn
    by_cases v0 : W.tV s.data.toList a = 0
    · have HV := Lib.hid (trip_nil e0 v0)
      rw [e0, v0] at HT
      generalize tripV (ds s.data.toList a) = V at HV
      generalize W.tN s.data.toList a = N at HT HV
      clear e0 v0 hI hX
      go_enter Tryd.func26, Tryd.ntmps26
      go_wp2_with fail
      refine (HT.out _).mono ?_; rintro e w1 ⟨rfl, rfl⟩
      go_wp2_with fail
      refine bodyPost_ret (v := .tuple #[.agg #[.int .i64 0, .int .i64 0, .string ⟨#[]⟩], .int .i64 N, .int .i64 0]) (by simp [results, Tryd.results26, go_sem]) rfl ⟨?_, HW.out _ _ _⟩
      rw [HV.out]
    · by_cases v1 : W.tV s.data.toList a = 1
      · have hV := trip_int_all e0 v1
        obtain ⟨k, n, t, M, E, hD⟩ := diV_form s.data.toList (W.tN s.data.toList a)
        rw [hD] at hV hI
        have HV := Lib.hid hV
        have HI := Lib.hid hI
        rw [e0, v1] at HT
        generalize tripV (ds s.data.toList a) = V at HV
        generalize W.tN s.data.toList a = N at HT HI
        clear e0 v0 v1 hI hX hV hD
        go_enter Tryd.func26, Tryd.ntmps26
        go_wp2_with fail
        refine (HT.out _).mono ?_; rintro e w1 ⟨rfl, rfl⟩
        go_wp2_with fail
        refine (HI.out _).mono ?_; rintro e w2 ⟨rfl, hb2⟩
        obtain ⟨⟨x0, x1, x2, c0, c1, c2⟩, d0, d1, d2⟩ := HM.out.below hb2 (by simp)
        go_wp2_with fail
        obtain ⟨q0, q1, q2⟩ := stored ⟨c0, c1, c2⟩ k n t
        refine bodyPost_ret (v := .tuple #[.agg #[.int .i64 k, .int .i64 n, .string t], .int .i64 M, .int .i64 E]) (by simp [results, Tryd.results26, go_sem, q0, q1, q2]) rfl ⟨?_, stored_below (below_2 (HW.out _ _ _) hb2) (Nat.le_refl _) _ _ _⟩
        rw [HV.out]
      · by_cases v2 : W.tV s.data.toList a = 2
        · have hV := trip_str_all e0 v2
          obtain ⟨k, n, t, M, E, hD⟩ := dxV_form s.data.toList (W.tN s.data.toList a)
          rw [hD] at hV hX
          have HV := Lib.hid hV
          have HI := Lib.hid hX
          rw [e0, v2] at HT
          generalize tripV (ds s.data.toList a) = V at HV
          generalize W.tN s.data.toList a = N at HT HI
          clear e0 v0 v1 v2 hI hX hV hD
          go_enter Tryd.func26, Tryd.ntmps26
          go_wp2_with fail
          refine (HT.out _).mono ?_; rintro e w1 ⟨rfl, rfl⟩
          go_wp2_with fail
          refine (HI.out _).mono ?_; rintro e w2 ⟨rfl, hb2⟩
          obtain ⟨⟨x0, x1, x2, c0, c1, c2⟩, d0, d1, d2⟩ := HM.out.below hb2 (by simp)
          go_wp2_with fail
          obtain ⟨q0, q1, q2⟩ := stored ⟨c0, c1, c2⟩ k n t
          refine bodyPost_ret (v := .tuple #[.agg #[.int .i64 k, .int .i64 n, .string t], .int .i64 M, .int .i64 E]) (by simp [results, Tryd.results26, go_sem, q0, q1, q2]) rfl ⟨?_, stored_below (below_2 (HW.out _ _ _) hb2) (Nat.le_refl _) _ _ _⟩
          rw [HV.out]
        · have HV := Lib.hid (trip_bad e0 v0 v1 v2)
          have b0 : (W.tV s.data.toList a == 0) = false := beq_eq_false_iff_ne.2 v0
          have b1 : (W.tV s.data.toList a == 1) = false := beq_eq_false_iff_ne.2 v1
          have b2 : (W.tV s.data.toList a == 2) = false := beq_eq_false_iff_ne.2 v2
          rw [e0] at HT
          generalize tripV (ds s.data.toList a) = V at HV
          generalize W.tV s.data.toList a = K at HT b0 b1 b2
          generalize W.tN s.data.toList a = N at HT
          clear e0 v0 v1 v2 hI hX
          go_enter Tryd.func26, Tryd.ntmps26
          go_wp2_with fail
          refine (HT.out _).mono ?_; rintro e w1 ⟨rfl, rfl⟩
          go_wp2_with fail
          refine bodyPost_ret (v := .tuple #[.agg #[.int .i64 0, .int .i64 0, .string ⟨#[]⟩], .int .i64 0, .int .i64 5]) (by simp [results, Tryd.results26, go_sem]) rfl ⟨?_, HW.out _ _ _⟩
          rw [HV.out]; rfl
  · have HV := Lib.hid (trip_err e0)
    have bE : (W.tE s.data.toList a != 0) = true := bne_iff_ne.2 e0
    generalize tripV (ds s.data.toList a) = V at HV
    generalize W.tE s.data.toList a = E at HT HV bE
    generalize W.tV s.data.toList a = K at HT
    generalize W.tN s.data.toList a = N at HT
    clear e0
    go_enter Tryd.func26, Tryd.ntmps26
    go_wp2_with fail
    refine (HT.out _).mono ?_; rintro e w1 ⟨rfl, rfl⟩
    go_wp2_with fail
    refine bodyPost_ret (v := .tuple #[.agg #[.int .i64 0, .int .i64 0, .string ⟨#[]⟩], .int .i64 0, .int .i64 E]) (by simp [results, Tryd.results26, go_sem]) rfl ⟨?_, HW.out _ _ _⟩
    rw [HV.out]; rfl
end Go.Proofs.YtcedndjpdgpdgaaDoor.V
