/-
  What the reference's Decode of layer 5 returns: its contract.
-/
import Derived.Test.YtcedndjpdgpdgaaDoorVParse
namespace Go.Proofs.YtcedndjpdgpdgaaDoor.V
open Go.RowKit

/-- a value, an offset and an error, as the program returns them -/
def tripV (p : Val × Int × Int) : Value := .tuple #[.agg #[.int .i64 p.1.k, .int .i64 p.1.n, .string ⟨p.1.s.toArray⟩], .int .i64 p.2.1, .int .i64 p.2.2]
/-- an error -/
def noV (E : Int) : Value := .tuple #[.agg #[.int .i64 0, .int .i64 0, .string ⟨#[]⟩], .int .i64 0, .int .i64 E]
theorem trip_err {l : List UInt8} {a : Int} (h : W.tE l a ≠ 0) : tripV (ds l a) = noV (W.tE l a) := by rw [ds_err h]; rfl
theorem trip_nil {l : List UInt8} {a : Int} (h : W.tE l a = 0) (h2 : W.tV l a = 0) : tripV (ds l a) = .tuple #[.agg #[.int .i64 0, .int .i64 0, .string ⟨#[]⟩], .int .i64 (W.tN l a), .int .i64 0] := by rw [ds_nil h h2]; rfl
theorem trip_int_err {l : List UInt8} {a : Int} (h : W.tE l a = 0) (h2 : W.tV l a = 1) (h3 : W.tE l (W.tN l a) ≠ 0) : tripV (ds l a) = noV (W.tE l (W.tN l a)) := by rw [ds_int h h2, if_pos h3]; rfl
theorem trip_int {l : List UInt8} {a : Int} (h : W.tE l a = 0) (h2 : W.tV l a = 1) (h3 : W.tE l (W.tN l a) = 0) : tripV (ds l a) = .tuple #[.agg #[.int .i64 1, .int .i64 (W.iV l (W.tN l a)), .string ⟨#[]⟩], .int .i64 (W.tN l (W.tN l a)), .int .i64 0] := by
  rw [ds_int h h2, if_neg (by omega)]; rfl
theorem trip_str_err {l : List UInt8} {a : Int} (h : W.tE l a = 0) (h2 : W.tV l a = 2) (h3 : W.xE l (W.tN l a) 64 ≠ 0) : tripV (ds l a) = noV (W.xE l (W.tN l a) 64) := by rw [ds_str h h2, if_pos h3]; rfl
theorem trip_str_bad {l : List UInt8} {a : Int} (h : W.tE l a = 0) (h2 : W.tV l a = 2) (h3 : W.xE l (W.tN l a) 64 = 0) (h4 : plain (W.xV l (W.tN l a) 64) = false) : tripV (ds l a) = noV 5 := by
  rw [ds_str h h2, if_neg (by omega), h4]; rfl
theorem trip_str {l : List UInt8} {a : Int} (h : W.tE l a = 0) (h2 : W.tV l a = 2) (h3 : W.xE l (W.tN l a) 64 = 0) (h4 : plain (W.xV l (W.tN l a) 64) = true) :
    tripV (ds l a) = .tuple #[.agg #[.int .i64 2, .int .i64 0, .string ⟨(W.xV l (W.tN l a) 64).toArray⟩], .int .i64 (W.xN l (W.tN l a) 64), .int .i64 0] := by
  rw [ds_str h h2, if_neg (by omega), h4]; rfl
theorem trip_bad {l : List UInt8} {a : Int} (h : W.tE l a = 0) (h0 : W.tV l a ≠ 0) (h1 : W.tV l a ≠ 1) (h2 : W.tV l a ≠ 2) : tripV (ds l a) = noV 5 := by rw [ds_bad h h0 h1 h2]; rfl
theorem xV_size {l : List UInt8} {a m : Int} : (ByteArray.mk (W.xV l a m).toArray).size ≤ l.length := by
  rw [size_len]
  show (W.xV l a m).length ≤ l.length
  unfold W.xV
  split
  · rw [List.length_take, List.length_drop]; omega
  · exact Nat.zero_le _
set_option maxHeartbeats 2000000 in
set_option maxRecDepth 100000 in
theorem rdec_any (s : ByteArray) (hs : s.size ≤ 1000000) (a : Int) (h0 : -9223372036854775808 ≤ a) (h1 : a ≤ 9223372036854775807) (w : World) :
    Calls Tryd.prog 27 #[.string s, .int .i64 a] w fun e w' => e = .returned (tripV (ds s.data.toList a)) ∧ Below w.heap.size w w' := by
  have HM := Lib.hid (Mine.new w 0 0 ⟨#[]⟩)
  have HW := Lib.hid (fun x y z => below_box w (.cells #[.int .i64 x, .int .i64 y, .string z] 23))
  have HT := Lib.hid (W.rtake_any s a h0 h1 hs)
  by_cases e0 : W.tE s.data.toList a = 0
  · have hn := W.tN_bd e0
    rw [← size_len] at hn
    have HI := Lib.hid (W.rtakeInt_any s (W.tN s.data.toList a) (by omega) (by omega) hs)
    have HX := Lib.hid (W.rtakeText_any s (W.tN s.data.toList a) 64 (by omega) (by omega) (by decide) (by decide) hs)
    have HP := Lib.hid (rplain_any ⟨(W.xV s.data.toList (W.tN s.data.toList a) 64).toArray⟩ (by have := xV_size (l := s.data.toList) (a := W.tN s.data.toList a) (m := 64); rw [← size_len] at this; omega))
    have HR := Lib.hid (rint_any (W.iV s.data.toList (W.tN s.data.toList a)))
    clear hn
    by_cases v0 : W.tV s.data.toList a = 0
    · have HV := Lib.hid (trip_nil e0 v0)
      rw [e0, v0] at HT
      generalize tripV (ds s.data.toList a) = V at HV
      generalize W.tN s.data.toList a = N at HT HV
      clear e0 v0 HI HX HP HR
      go_enter Tryd.func27, Tryd.ntmps27
      go_wp2_with fail
      refine (HT.out _).mono ?_; rintro e w1 ⟨rfl, rfl⟩
      go_wp2_with fail
      refine bodyPost_ret (v := .tuple #[.agg #[.int .i64 0, .int .i64 0, .string ⟨#[]⟩], .int .i64 N, .int .i64 0]) (by simp [results, Tryd.results27, go_sem]) rfl ⟨?_, HW.out _ _ _⟩
      rw [HV.out]
    · by_cases v1 : W.tV s.data.toList a = 1
      · by_cases e1 : W.tE s.data.toList (W.tN s.data.toList a) = 0
        · have HV := Lib.hid (trip_int e0 v1 e1)
          rw [e0, v1] at HT
          rw [e1] at HI
          generalize tripV (ds s.data.toList a) = V at HV
          generalize W.iV s.data.toList (W.tN s.data.toList a) = n at HI HR HV
          generalize W.tN s.data.toList (W.tN s.data.toList a) = M at HI HV
          generalize W.tN s.data.toList a = N at HT HI
          clear e0 v0 v1 e1 HX HP
          go_enter Tryd.func27, Tryd.ntmps27
          go_wp2_with fail
          refine (HT.out _).mono ?_; rintro e w1 ⟨rfl, rfl⟩
          go_wp2_with fail
          refine (HI.out _).mono ?_; rintro e w1 ⟨rfl, rfl⟩
          go_wp2_with fail
          refine (HR.out _).mono ?_; rintro e w2 ⟨rfl, hb2⟩
          obtain ⟨⟨x0, x1, x2, c0, c1, c2⟩, d0, d1, d2⟩ := HM.out.below hb2 (by simp)
          go_wp2_with fail
          obtain ⟨q0, q1, q2⟩ := stored ⟨c0, c1, c2⟩ 1 n ⟨#[]⟩
          refine bodyPost_ret (v := .tuple #[.agg #[.int .i64 1, .int .i64 n, .string ⟨#[]⟩], .int .i64 M, .int .i64 0]) (by simp [results, Tryd.results27, go_sem, q0, q1, q2]) rfl ⟨?_, stored_below (below_2 (HW.out _ _ _) hb2) (Nat.le_refl _) _ _ _⟩
          rw [HV.out]
        · have HV := Lib.hid (trip_int_err e0 v1 e1)
          have bE : (W.tE s.data.toList (W.tN s.data.toList a) != 0) = true := bne_iff_ne.2 e1
          rw [e0, v1] at HT
          generalize tripV (ds s.data.toList a) = V at HV
          generalize W.tE s.data.toList (W.tN s.data.toList a) = E at HI HV bE
          generalize W.iV s.data.toList (W.tN s.data.toList a) = n at HI
          generalize W.tN s.data.toList (W.tN s.data.toList a) = M at HI
          generalize W.tN s.data.toList a = N at HT HI
          clear e0 v0 v1 e1 HX HP HR
          go_enter Tryd.func27, Tryd.ntmps27
          go_wp2_with fail
          refine (HT.out _).mono ?_; rintro e w1 ⟨rfl, rfl⟩
          go_wp2_with fail
          refine (HI.out _).mono ?_; rintro e w1 ⟨rfl, rfl⟩
          go_wp2_with fail
          refine bodyPost_ret (v := .tuple #[.agg #[.int .i64 0, .int .i64 0, .string ⟨#[]⟩], .int .i64 0, .int .i64 E]) (by simp [results, Tryd.results27, go_sem]) rfl ⟨?_, HW.out _ _ _⟩
          rw [HV.out]; rfl
      · by_cases v2 : W.tV s.data.toList a = 2
        · by_cases e1 : W.xE s.data.toList (W.tN s.data.toList a) 64 = 0
          · have HVN := Lib.hid (trip_str_bad e0 v2 e1)
            have HVY := Lib.hid (trip_str e0 v2 e1)
            rw [e0, v2] at HT
            rw [e1] at HX
            generalize tripV (ds s.data.toList a) = V at HVN HVY
            have HPL : Hid (plain (ByteArray.mk (W.xV s.data.toList (W.tN s.data.toList a) 64).toArray).data.toList = plain (W.xV s.data.toList (W.tN s.data.toList a) 64)) := rfl
            rw [HPL.out] at HP
            generalize plain (W.xV s.data.toList (W.tN s.data.toList a) 64) = P at HP HVN HVY
            generalize ByteArray.mk (W.xV s.data.toList (W.tN s.data.toList a) 64).toArray = t at HX HP HVY
            generalize W.xN s.data.toList (W.tN s.data.toList a) 64 = M at HX HVY
            generalize W.tN s.data.toList a = N at HT HX
            clear e0 v0 v1 v2 e1 HI HR HPL
            cases P
            · go_enter Tryd.func27, Tryd.ntmps27
              go_wp2_with fail
              refine (HT.out _).mono ?_; rintro e w1 ⟨rfl, rfl⟩
              go_wp2_with fail
              refine (HX.out _).mono ?_; rintro e w1 ⟨rfl, rfl⟩
              go_wp2_with fail
              refine (HP.out _).mono ?_; rintro e w1 ⟨rfl, rfl⟩
              go_wp2_with fail
              refine bodyPost_ret (v := .tuple #[.agg #[.int .i64 0, .int .i64 0, .string ⟨#[]⟩], .int .i64 0, .int .i64 5]) (by simp [results, Tryd.results27, go_sem]) rfl ⟨?_, HW.out _ _ _⟩
              rw [HVN.out trivial]; rfl
            · go_enter Tryd.func27, Tryd.ntmps27
              go_wp2_with fail
              refine (HT.out _).mono ?_; rintro e w1 ⟨rfl, rfl⟩
              go_wp2_with fail
              refine (HX.out _).mono ?_; rintro e w1 ⟨rfl, rfl⟩
              go_wp2_with fail
              refine (HP.out _).mono ?_; rintro e w1 ⟨rfl, rfl⟩
              go_wp2_with fail
              refine bodyPost_ret (v := .tuple #[.agg #[.int .i64 2, .int .i64 0, .string t], .int .i64 M, .int .i64 0]) (by simp [results, Tryd.results27, go_sem]) rfl ⟨?_, HW.out _ _ _⟩
              rw [HVY.out trivial]
          · have HV := Lib.hid (trip_str_err e0 v2 e1)
            have bE : (W.xE s.data.toList (W.tN s.data.toList a) 64 != 0) = true := bne_iff_ne.2 e1
            rw [e0, v2] at HT
            generalize tripV (ds s.data.toList a) = V at HV
            generalize W.xE s.data.toList (W.tN s.data.toList a) 64 = E at HX HV bE
            generalize ByteArray.mk (W.xV s.data.toList (W.tN s.data.toList a) 64).toArray = t at HX
            generalize W.xN s.data.toList (W.tN s.data.toList a) 64 = M at HX
            generalize W.tN s.data.toList a = N at HT HX
            clear e0 v0 v1 v2 e1 HI HR HP
            go_enter Tryd.func27, Tryd.ntmps27
            go_wp2_with fail
            refine (HT.out _).mono ?_; rintro e w1 ⟨rfl, rfl⟩
            go_wp2_with fail
            refine (HX.out _).mono ?_; rintro e w1 ⟨rfl, rfl⟩
            go_wp2_with fail
            refine bodyPost_ret (v := .tuple #[.agg #[.int .i64 0, .int .i64 0, .string ⟨#[]⟩], .int .i64 0, .int .i64 E]) (by simp [results, Tryd.results27, go_sem]) rfl ⟨?_, HW.out _ _ _⟩
            rw [HV.out]; rfl
        · have HV := Lib.hid (trip_bad e0 v0 v1 v2)
          have b0 : (W.tV s.data.toList a == 0) = false := beq_eq_false_iff_ne.2 v0
          have b1 : (W.tV s.data.toList a == 1) = false := beq_eq_false_iff_ne.2 v1
          have b2 : (W.tV s.data.toList a != 2) = true := bne_iff_ne.2 v2
          rw [e0] at HT
          generalize tripV (ds s.data.toList a) = V at HV
          generalize W.tV s.data.toList a = K at HT b0 b1 b2
          generalize W.tN s.data.toList a = N at HT
          clear e0 v0 v1 v2 HI HR HP HX
          go_enter Tryd.func27, Tryd.ntmps27
          go_wp2_with fail
          refine (HT.out _).mono ?_; rintro e w1 ⟨rfl, rfl⟩
          go_wp2_with fail
          refine bodyPost_ret (v := .tuple #[.agg #[.int .i64 0, .int .i64 0, .string ⟨#[]⟩], .int .i64 0, .int .i64 5]) (by simp [results, Tryd.results27, go_sem]) rfl ⟨?_, HW.out _ _ _⟩
          rw [HV.out]; rfl
  · have HV := Lib.hid (trip_err e0)
    have bE : (W.tE s.data.toList a != 0) = true := bne_iff_ne.2 e0
    generalize tripV (ds s.data.toList a) = V at HV
    generalize W.tE s.data.toList a = E at HT HV bE
    generalize W.tV s.data.toList a = K at HT
    generalize W.tN s.data.toList a = N at HT
    clear e0
    go_enter Tryd.func27, Tryd.ntmps27
    go_wp2_with fail
    refine (HT.out _).mono ?_; rintro e w1 ⟨rfl, rfl⟩
    go_wp2_with fail
    refine bodyPost_ret (v := .tuple #[.agg #[.int .i64 0, .int .i64 0, .string ⟨#[]⟩], .int .i64 0, .int .i64 E]) (by simp [results, Tryd.results27, go_sem]) rfl ⟨?_, HW.out _ _ _⟩
    rw [HV.out]; rfl
end Go.Proofs.YtcedndjpdgpdgaaDoor.V
