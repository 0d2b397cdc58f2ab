/-
  What the program's own Format returns: its contract.
-/
import Derived.Test.YtcedndjpdgpdgaaDoorVOwnB
namespace Go.Proofs.YtcedndjpdgpdgaaDoor.V
open Go.RowKit

set_option maxHeartbeats 2000000 in
set_option maxRecDepth 100000 in
theorem ofmt_any (k n : Int) (h0 : -9223372036854775808 ≤ n) (h1 : n ≤ 9223372036854775807) (s : ByteArray) (hs : s.size ≤ 1000000) (w : World) (hT : Tab w) :
    Calls Tryd.prog 20 #[.agg #[.int .i64 k, .int .i64 n, .string s]] w fun e w' => e = .returned (.string ⟨(fmt ⟨k, n, s.data.toList⟩).toArray⟩) ∧ Below w.heap.size w w' := by
  have HV := Lib.hid (ovalid_any k n s (by omega))
  have HF := Lib.hid (format_any n h0 h1)
  have HQ := Lib.hid (oquoted_any s hs)
  have HT := Lib.hid hT
  clear hT
  have HB := Lib.hid (Has.box w k n s)
  have HW := Lib.hid (below_box w (.cells #[.int .i64 k, .int .i64 n, .string s] 23))
  cases hv : valid ⟨k, n, s.data.toList⟩
  · have HE := Lib.hid (fmt_no hv)
    rw [hv] at HV
    clear hv
    go_enter Tryd.func20, Tryd.ntmps20
    go_wp2_with fail
    refine (HV.out _).mono ?_; rintro e w1 ⟨rfl, hb1⟩
    go_wp2_with fail
    go_ret
    exact ⟨ret_string (by rw [HE.out]), below_2 HW.out hb1⟩
  · rw [hv] at HV
    rcases valid_iff.1 hv with ⟨hk, -⟩ | ⟨hk, -⟩ | ⟨hk, -⟩
    · simp only at hk
      subst hk
      have HE := Lib.hid (fmt_0 hv)
      clear hv
      go_enter Tryd.func20, Tryd.ntmps20
      go_wp2_with fail
      refine (HV.out _).mono ?_; rintro e w1 ⟨rfl, hb1⟩
      obtain ⟨a0, a1, a2⟩ := HB.out.below hb1 (by simp)
      go_wp2_with fail
      go_ret
      exact ⟨ret_string (by rw [HE.out]), below_2 HW.out hb1⟩
    · simp only at hk
      subst hk
      have HE := Lib.hid (fmt_1 hv)
      clear hv
      go_enter Tryd.func20, Tryd.ntmps20
      go_wp2_with fail
      refine (HV.out _).mono ?_; rintro e w1 ⟨rfl, hb1⟩
      obtain ⟨a0, a1, a2⟩ := HB.out.below hb1 (by simp)
      go_wp2_with fail
      refine (HF.out _ (HT.out.below (below_2 HW.out hb1))).mono ?_; rintro e w2 ⟨rfl, hb2⟩
      go_wp2_with fail
      go_ret
      exact ⟨ret_string (by rw [HE.out]), below_2 (below_2 HW.out hb1) hb2⟩
    · simp only at hk
      subst hk
      have HE := Lib.hid (fmt_2 hv)
      clear hv
      go_enter Tryd.func20, Tryd.ntmps20
      go_wp2_with fail
      refine (HV.out _).mono ?_; rintro e w1 ⟨rfl, hb1⟩
      obtain ⟨a0, a1, a2⟩ := HB.out.below hb1 (by simp)
      go_wp2_with fail
      refine (HQ.out _).mono ?_; rintro e w2 ⟨rfl, hb2⟩
      go_wp2_with fail
      go_ret
      exact ⟨ret_string (by rw [HE.out]), below_2 (below_2 HW.out hb1) hb2⟩
end Go.Proofs.YtcedndjpdgpdgaaDoor.V
