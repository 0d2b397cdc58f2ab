/-
  What Open returns, of the program and of the reference: contracts, one a way.
-/
import Derived.Test.YtmmbhmmmiagipaaOpens
namespace Go.Proofs.Ytmmbhmmmiagipaa
open Go.RowKit

/-- the bytes ahead of place m -/
def ahead (s : ByteArray) (m : Nat) : ByteArray := s.extract 0 m
/-- the bytes from place m on -/
def behind (s : ByteArray) (m : Nat) : ByteArray := s.extract m s.size
theorem ahead_list (s : ByteArray) (m : Nat) : (ahead s m).data.toList = s.data.toList.take m := by
  unfold ahead; simp [ByteArray.data_extract]
theorem behind_list (s : ByteArray) (m : Nat) : (behind s m).data.toList = s.data.toList.drop m := by
  unfold behind
  simp only [ByteArray.data_extract, Array.toList_extract, List.extract_eq_take_drop]
  rw [List.take_of_length_le (by simp)]
theorem ahead_run (s : ByteArray) (m : Nat) (h : m ≤ s.size) (W : World) : (Instr.slice 9 (.string s) none (some (.int .i64 (m : Int))) none).run Try.prog W = .ok (.string (ahead s m)) W :=
  run_slice_string_h (P := Try.prog) W 9 s Try.underlying9 .i64 (m : Int) (by omega) (by omega)
theorem behind_run (s : ByteArray) (m : Nat) (h : m ≤ s.size) (W : World) : (Instr.slice 9 (.string s) (some (.int .i64 (m : Int))) none none).run Try.prog W = .ok (.string (behind s m)) W :=
  run_slice_string_l (P := Try.prog) W 9 s Try.underlying9 .i64 (m : Int) (by omega) (by omega)
theorem clone_any (s : ByteArray) (w : World) (hs : s.size ≤ 281474976710656) :
    Calls Try.prog 29 #[.string s] w fun e w' => e = .returned (.string s) ∧ Below w.heap.size w w' := by
  go_enter Try.func29, Try.ntmps29
  go_wp2_with (go_at_call 34; refine (Try.stringslite_Clone _ _ hs).mono ?_; rintro e w' ⟨rfl, hb⟩)
  go_ret
  exact ⟨rfl, hb⟩
theorem differ {d t : ByteArray} (h : d ≠ t) : (d.toList == t.toList) = false := by
  rw [Lib.toList_data, Lib.toList_data]
  exact beq_eq_false_iff_ne.2 fun e => h (WideShapes.bytes_inj e)
theorem open_short (s : ByteArray) (h : s.size < 4) (w : World) :
    Calls Try.prog 10 #[.string s] w fun e w' => e = .returned (.tuple #[.string ⟨#[]⟩, .int .i64 6]) ∧ Below w.heap.size w w' := by
  have hm : (s.size : Int) - 4 < 0 := by omega
  go_enter Try.func10, Try.ntmps10
  go_wp2
  go_ret2
  exact ⟨rfl, Below.refl _ _⟩
set_option maxRecDepth 100000 in
theorem open_bad (s : ByteArray) (m : Nat) (hm : s.size = m + 4) (hs : s.size ≤ 200000000000000) (hbad : behind s m ≠ ⟨(trail (ahead s m).data.toList).toArray⟩) (w : World) :
    Calls Try.prog 10 #[.string s] w fun e w' => e = .returned (.tuple #[.string ⟨#[]⟩, .int .i64 14]) ∧ Below w.heap.size w w' := by
  have hsz : (ahead s m).size ≤ s.size := by rw [size_len, ahead_list, List.length_take, ← size_len]; omega
  have h1 := trail_any (ahead s m) (by omega)
  have r1 := ahead_run s m (by omega)
  have r2 := behind_run s m (by omega)
  have hm4 : (s.size : Int) - 4 = (m : Int) := by omega
  have hm0 : decide ((m : Int) < 0) = false := decide_eq_false (by omega)
  generalize ByteArray.mk (trail (ahead s m).data.toList).toArray = t at h1 hbad
  generalize ahead s m = p at h1 r1
  generalize behind s m = d at hbad r2
  have e1 := differ hbad
  have C := Lib.hid (fun W d os => Calls.regrown_of (w := W) (d := d) (os := os) (h1 _))
  clear h1 hbad hm hsz
  go_enter Try.func10, Try.ntmps10
  go_wp2_with fail
  refine wp_region_quiet_below (by kernel_rfl) (by kernel_rfl) ?_
  repeat (go_big_quiet_step (exact C.out _ _ _))
  refine wpQuiet_nil ?_
  intro _ hw'
  obtain ⟨⟨dq, osq⟩, hw''⟩ := hw'
  subst hw''
  go_wp2_with fail
  go_ret2
  exact ⟨rfl, below_regrown _ _ _⟩
set_option maxRecDepth 100000 in
theorem open_good (s : ByteArray) (m : Nat) (hm : s.size = m + 4) (hs : s.size ≤ 200000000000000) (hgood : behind s m = ⟨(trail (ahead s m).data.toList).toArray⟩) (w : World) :
    Calls Try.prog 10 #[.string s] w fun e w' => e = .returned (.tuple #[.string (ahead s m), .int .i64 0]) ∧ Below w.heap.size w w' := by
  have hsz : (ahead s m).size ≤ s.size := by rw [size_len, ahead_list, List.length_take, ← size_len]; omega
  have h1 := trail_any (ahead s m) (by omega)
  have r1 := ahead_run s m (by omega)
  have r2 := behind_run s m (by omega)
  have hm4 : (s.size : Int) - 4 = (m : Int) := by omega
  have hm0 : decide ((m : Int) < 0) = false := decide_eq_false (by omega)
  rw [hgood] at r2
  clear hgood
  generalize ByteArray.mk (trail (ahead s m).data.toList).toArray = t at h1 r2
  have h2 : ∀ w, Calls Try.prog 29 #[.string (ahead s m)] w fun e w' => e = .returned (.string (ahead s m)) ∧ Below w.heap.size w w' := fun w => clone_any _ w (by omega)
  generalize ahead s m = p at h1 r1 h2
  have C := Lib.hid (fun W d os => Calls.regrown_of (w := W) (d := d) (os := os) (h1 _))
  have H2 := Lib.hid h2
  clear h1 hm hsz h2
  go_enter Try.func10, Try.ntmps10
  go_wp2_with fail
  refine wp_region_quiet_below (by kernel_rfl) (by kernel_rfl) ?_
  repeat (go_big_quiet_step (exact C.out _ _ _))
  refine wpQuiet_nil ?_
  intro _ hw'
  obtain ⟨⟨dq, osq⟩, hw''⟩ := hw'
  subst hw''
  go_wp2_with fail
  refine (H2.out _).mono ?_; rintro e w2 ⟨rfl, hb2⟩
  go_wp2_with fail
  go_ret2
  exact ⟨rfl, below_2 (below_regrown _ _ _) hb2⟩
/-! ### the reference -/
theorem ropen_short (s : ByteArray) (h : s.size < 4) (w : World) :
    Calls Try.prog 18 #[.string s] w fun e w' => e = .returned (.tuple #[.string ⟨#[]⟩, .int .i64 6]) ∧ Below w.heap.size w w' := by
  have hm : (s.size : Int) < 4 := by omega
  go_enter Try.func18, Try.ntmps18
  go_wp2
  go_ret2
  exact ⟨rfl, Below.refl _ _⟩
theorem sealed_iff (s : ByteArray) (m : Nat) : sealed (ahead s m) = s ↔ behind s m = ⟨(trail (ahead s m).data.toList).toArray⟩ := by
  have e : s.data.toList = (ahead s m).data.toList ++ (behind s m).data.toList := by rw [ahead_list, behind_list, List.take_append_drop]
  constructor
  · intro h
    refine WideShapes.bytes_inj ?_
    have h2 := congrArg (fun x : ByteArray => x.data.toList) h
    simp only [sealed_list] at h2
    rw [e] at h2
    exact (List.append_cancel_left h2).symm
  · intro h
    refine WideShapes.bytes_inj ?_
    rw [sealed_list, e, h]
set_option maxRecDepth 100000 in
theorem ropen_bad (s : ByteArray) (m : Nat) (hm : s.size = m + 4) (hs : s.size ≤ 200000000000000) (hbad : behind s m ≠ ⟨(trail (ahead s m).data.toList).toArray⟩) (w : World) :
    Calls Try.prog 18 #[.string s] w fun e w' => e = .returned (.tuple #[.string ⟨#[]⟩, .int .i64 14]) ∧ Below w.heap.size w w' := by
  have hsz : (ahead s m).size ≤ s.size := by rw [size_len, ahead_list, List.length_take, ← size_len]; omega
  have h1 := rseal_any (ahead s m) (by omega)
  have r1 := ahead_run s m (by omega)
  have hm4 : (s.size : Int) - 4 = (m : Int) := by omega
  have hm0 : ¬ (s.size : Int) < 4 := by omega
  have hne : sealed (ahead s m) ≠ s := fun e => hbad ((sealed_iff s m).1 e)
  generalize sealed (ahead s m) = t at h1 hne
  generalize ahead s m = p at h1 r1
  have e1 := differ hne
  have H1 := Lib.hid h1
  clear h1 hbad hm hsz hne
  go_enter Try.func18, Try.ntmps18
  go_wp2_with fail
  refine (H1.out _).mono ?_; rintro e w2 ⟨rfl, hb2⟩
  go_wp2_with fail
  go_ret2
  exact ⟨rfl, hb2⟩
set_option maxRecDepth 100000 in
theorem ropen_good (s : ByteArray) (m : Nat) (hm : s.size = m + 4) (hs : s.size ≤ 200000000000000) (hgood : behind s m = ⟨(trail (ahead s m).data.toList).toArray⟩) (w : World) :
    Calls Try.prog 18 #[.string s] w fun e w' => e = .returned (.tuple #[.string (ahead s m), .int .i64 0]) ∧ Below w.heap.size w w' := by
  have hsz : (ahead s m).size ≤ s.size := by rw [size_len, ahead_list, List.length_take, ← size_len]; omega
  have h1 := rseal_any (ahead s m) (by omega)
  have r1 := ahead_run s m (by omega)
  have hm4 : (s.size : Int) - 4 = (m : Int) := by omega
  have hm0 : ¬ (s.size : Int) < 4 := by omega
  rw [(sealed_iff s m).2 hgood] at h1
  generalize ahead s m = p at h1 r1
  have H1 := Lib.hid h1
  clear h1 hgood hm hsz
  go_enter Try.func18, Try.ntmps18
  go_wp2_with fail
  refine (H1.out _).mono ?_; rintro e w2 ⟨rfl, hb2⟩
  go_wp2_with fail
  go_ret2
  exact ⟨rfl, hb2⟩

/-! ### both in one -/

/-- the error of Open -/
def oE (s : ByteArray) : Int := if s.size < 4 then 6 else if behind s (s.size - 4) = ⟨(trail (ahead s (s.size - 4)).data.toList).toArray⟩ then 0 else 14
/-- the string of Open -/
def oV (s : ByteArray) : ByteArray := if s.size < 4 then ⟨#[]⟩ else if behind s (s.size - 4) = ⟨(trail (ahead s (s.size - 4)).data.toList).toArray⟩ then ahead s (s.size - 4) else ⟨#[]⟩
theorem open_any (s : ByteArray) (hs : s.size ≤ 200000000000000) (w : World) :
    Calls Try.prog 10 #[.string s] w fun e w' => e = .returned (.tuple #[.string (oV s), .int .i64 (oE s)]) ∧ Below w.heap.size w w' := by
  unfold oE oV
  by_cases h : s.size < 4
  · rw [if_pos h, if_pos h]; exact open_short s h w
  · rw [if_neg h, if_neg h]
    by_cases h2 : behind s (s.size - 4) = ⟨(trail (ahead s (s.size - 4)).data.toList).toArray⟩
    · rw [if_pos h2, if_pos h2]; exact open_good s _ (by omega) hs h2 w
    · rw [if_neg h2, if_neg h2]; exact open_bad s _ (by omega) hs h2 w
theorem ropen_any (s : ByteArray) (hs : s.size ≤ 200000000000000) (w : World) :
    Calls Try.prog 18 #[.string s] w fun e w' => e = .returned (.tuple #[.string (oV s), .int .i64 (oE s)]) ∧ Below w.heap.size w w' := by
  unfold oE oV
  by_cases h : s.size < 4
  · rw [if_pos h, if_pos h]; exact ropen_short s h w
  · rw [if_neg h, if_neg h]
    by_cases h2 : behind s (s.size - 4) = ⟨(trail (ahead s (s.size - 4)).data.toList).toArray⟩
    · rw [if_pos h2, if_pos h2]; exact ropen_good s _ (by omega) hs h2 w
    · rw [if_neg h2, if_neg h2]; exact ropen_bad s _ (by omega) hs h2 w
end Go.Proofs.Ytmmbhmmmiagipaa
