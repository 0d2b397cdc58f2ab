/-
  What the program's own functions of layer 7 return: leadingWord, IsName; what it calls of the library: copies, prefixes, leading bytes cut off, the part ahead of a byte, bytes counted.
-/
import Derived.Test.YtbmdadhbkdkgmaaDoorLOA
namespace Go.Proofs.YtbmdadhbkdkgmaaDoor.L
open Go.RowKit

theorem slice_to (s : ByteArray) (k : Nat) (h : k ≤ s.size) : ∃ d : ByteArray, d.data.toList = s.data.toList.take k ∧ d.size = k ∧ ∀ W, (Instr.slice 9 (.string s) none (some (.int .i64 (k : Int))) none).run Tryd.prog W = .ok (.string d) W := by
  refine ⟨s.extract 0 k, ?_, ?_, fun W => ?_⟩
  · simp only [ByteArray.data_extract, Array.toList_extract, List.extract_eq_take_drop]
    rw [Nat.sub_zero, List.drop_zero]
  · rw [ByteArray.size_extract]; omega
  · have := run_slice_string_h (P := Tryd.prog) W 9 s Tryd.underlying9 .i64 (k : Int) (by omega) (by omega)
    rw [this]; rfl
theorem slice_from (s : ByteArray) (k : Nat) (h : k ≤ s.size) : ∃ d : ByteArray, d.data.toList = s.data.toList.drop k ∧ d.size = s.size - k ∧ ∀ W, (Instr.slice 9 (.string s) (some (.int .i64 (k : Int))) none none).run Tryd.prog W = .ok (.string d) W := by
  refine ⟨s.extract k s.size, ?_, ?_, fun W => ?_⟩
  · simp only [ByteArray.data_extract, Array.toList_extract, List.extract_eq_take_drop]
    rw [List.take_of_length_le (by rw [List.length_drop, ← size_len]; exact Nat.le_refl _)]
  · rw [ByteArray.size_extract]; omega
  · have := run_slice_string_l (P := Tryd.prog) W 9 s Tryd.underlying9 .i64 (k : Int) (by omega) (by omega)
    rw [this]; rfl
theorem lead_at {s : ByteArray} {k : Nat} (h : (s.data.toList.take k).all part = true) (h2 : ∀ h : k < s.size, part s[k] = false) : s.data.toList.takeWhile part = s.data.toList.take k := by
  have h3 := (take_sep (w := s.data.toList.take k) (r := s.data.toList.drop k) h (fun c z e => by
    rcases Nat.lt_or_ge k s.size with hl | hl
    · rw [drop_get s k hl] at e; rw [← (List.cons.inj e).1]; exact h2 hl
    · rw [List.drop_of_length_le (by rw [← size_len]; exact hl)] at e; cases e)).1
  rwa [List.take_append_drop] at h3
theorem all_take_snoc {s : ByteArray} {k : Nat} (h : k < s.size) (h1 : (s.data.toList.take k).all part = true) (h2 : part s[k] = true) : (s.data.toList.take (k + 1)).all part = true := by
  rw [take_snoc s k h, List.all_append, h1]; simp [h2]
theorem lead_ret {s d : ByteArray} {k : Nat} (hd : d.data.toList = s.data.toList.take k) (h : s.data.toList.takeWhile part = s.data.toList.take k) : d = ⟨(s.data.toList.takeWhile part).toArray⟩ := bytes_eq (by rw [h, hd])
set_option maxHeartbeats 1000000 in
set_option maxRecDepth 100000 in
theorem olead_any (s : ByteArray) (w : World) :
    Calls Tryd.prog 31 #[.string s] w fun e w' => e = .returned (.string ⟨(s.data.toList.takeWhile part).toArray⟩) ∧ Below w.heap.size w w' := by
  have HL := Lib.hid oletter_any
  have HD := Lib.hid odigit_any
  have HB := Lib.hid (fun p => below_box w (.stringIter s p))
  go_enter Tryd.func31, Tryd.ntmps31
  go_wp2
  go_loopw [3] (fun _ wr => ∃ pos : Nat, pos ≤ s.size ∧ wr = w.iter s pos ∧ Hid ((s.data.toList.take pos).all part = true)) (fun _ wr => s.size - wr.iterPos w.heap.size)
  case atStart => exact ⟨0, Nat.zero_le _, rfl, rfl⟩
  case round =>
    obtain ⟨pos, hpos, rfl, HK⟩ := hrel
    by_cases hp : pos < s.size
    · obtain ⟨d, hd, hd2, hsl⟩ := slice_to s pos hpos
      have HE := Lib.hid hd
      clear hd hd2
      by_cases ha : s[pos].toNat < 128
      · have hnx : ∀ ty, (Instr.next (.pointer (some ⟨w.heap.size, 0, none⟩)) true ty).run Tryd.prog (w.iter s pos) = _ := fun ty => run_next_ascii w s pos ty hp ha
        have h1 := HL.out (s[pos].toNat : Int)
        have h2 := HD.out (s[pos].toNat : Int)
        rw [ltr_of] at h1
        rw [dgt_of] at h2
        have HN := Lib.hid (all_take_snoc hp HK.out)
        have HV : Hid (part s[pos] = false → s.data.toList.takeWhile part = s.data.toList.take pos) := fun h => lead_at HK.out fun _ => h
        have HPt : Hid (part s[pos] = (letter s[pos] || digit s[pos] || decide (s[pos].toNat = 95))) := rfl
        cases hl : letter s[pos]
        · rw [hl] at h1 HPt
          cases hdg : digit s[pos]
          · rw [hdg] at h2 HPt
            by_cases h95 : s[pos].toNat = 95
            · have b1 : ((s[pos].toNat : Int) != 95) = false := by rw [bne_eq_false_iff_eq]; omega
              have HN2 := Lib.hid (HN.out (by rw [HPt.out, decide_eq_true h95]; rfl))
              have H1 := Lib.hid h1
              have H2 := Lib.hid h2
              clear h1 h2 hl hdg h95 HL HD HN HV HPt
              go_wp2_with fail
              refine (H1.out _).mono ?_; rintro e w1 ⟨rfl, rfl⟩
              go_wp2_with fail
              refine (H2.out _).mono ?_; rintro e w1 ⟨rfl, rfl⟩
              go_wp2_with fail
              go_roundw
              case rel => exact ⟨pos + 1, by omega, rfl, HN2⟩
              case measure => simp; omega
            · have b1 : ((s[pos].toNat : Int) != 95) = true := bne_iff_ne.2 (by omega)
              have HV2 := Lib.hid (HV.out (by rw [HPt.out, decide_eq_false h95]; rfl))
              have H1 := Lib.hid h1
              have H2 := Lib.hid h2
              clear h1 h2 hl hdg h95 HL HD HN HV HPt
              go_wp2_with fail
              refine (H1.out _).mono ?_; rintro e w1 ⟨rfl, rfl⟩
              go_wp2_with fail
              refine (H2.out _).mono ?_; rintro e w1 ⟨rfl, rfl⟩
              go_wp2_with fail
              go_ret
              exact ⟨ret_string (lead_ret HE.out HV2.out), HB.out _⟩
          · rw [hdg] at h2 HPt
            have HN2 := Lib.hid (HN.out (by rw [HPt.out]; rfl))
            have H1 := Lib.hid h1
            have H2 := Lib.hid h2
            clear h1 h2 hl hdg HL HD HN HV HPt
            go_wp2_with fail
            refine (H1.out _).mono ?_; rintro e w1 ⟨rfl, rfl⟩
            go_wp2_with fail
            refine (H2.out _).mono ?_; rintro e w1 ⟨rfl, rfl⟩
            go_wp2_with fail
            go_roundw
            case rel => exact ⟨pos + 1, by omega, rfl, HN2⟩
            case measure => simp; omega
        · rw [hl] at h1 HPt
          have HN2 := Lib.hid (HN.out (by rw [HPt.out]; rfl))
          have H1 := Lib.hid h1
          clear h1 h2 hl HL HD HN HV HPt
          go_wp2_with fail
          refine (H1.out _).mono ?_; rintro e w1 ⟨rfl, rfl⟩
          go_wp2_with fail
          go_roundw
          case rel => exact ⟨pos + 1, by omega, rfl, HN2⟩
          case measure => simp; omega
      · obtain ⟨r, p2, hnx, hr⟩ : ∃ (r : Int) (p2 : Nat), (∀ ty, (Instr.next (.pointer (some ⟨w.heap.size, 0, none⟩)) true ty).run Tryd.prog (w.iter s pos) = .ok (.tuple #[.bool true, .int .i64 pos, .int .i32 r]) (w.iter s p2)) ∧ 128 ≤ r :=
          ⟨_, _, fun ty => run_next_any w s pos ty hp, by have := (decode_high s pos hp (by omega)).1; omega⟩
        have h1 := HL.out r
        have h2 := HD.out r
        rw [show ltr r = false from by unfold ltr; rw [decide_eq_false (show ¬ r ≤ 122 by omega), Bool.and_false]] at h1
        rw [show dgt r = false from by unfold dgt; rw [decide_eq_false (show ¬ r ≤ 57 by omega), Bool.and_false]] at h2
        have H1 := Lib.hid h1
        have H2 := Lib.hid h2
        have b1 : (r != 95) = true := bne_iff_ne.2 (by omega)
        have HV2 : Hid (s.data.toList.takeWhile part = s.data.toList.take pos) := lead_at HK.out fun _ => by
          have : ¬ part s[pos] = true := fun h => by rw [part_iff] at h; omega
          simpa using this
        clear h1 h2 hr HL HD ha
        go_wp2_with fail
        refine (H1.out _).mono ?_; rintro e w1 ⟨rfl, rfl⟩
        go_wp2_with fail
        refine (H2.out _).mono ?_; rintro e w1 ⟨rfl, rfl⟩
        go_wp2_with fail
        go_ret
        exact ⟨ret_string (lead_ret HE.out HV2.out), HB.out _⟩
    · obtain rfl : pos = s.size := by omega
      have hnx : ∀ ty, (Instr.next (.pointer (some ⟨w.heap.size, 0, none⟩)) true ty).run Tryd.prog (w.iter s s.size) = _ := fun ty => run_next_end w s s.size ty hp
      have HV2 : Hid (s.data.toList.takeWhile part = s.data.toList.take s.size) := lead_at HK.out fun h => absurd h (Nat.lt_irrefl _)
      have HE : Hid (s.data.toList = s.data.toList.take s.size) := by show _ = _; rw [size_len, List.take_length]
      go_wp2_with fail
      go_ret
      exact ⟨ret_string (lead_ret HE.out HV2.out), HB.out _⟩
end Go.Proofs.YtbmdadhbkdkgmaaDoor.L
