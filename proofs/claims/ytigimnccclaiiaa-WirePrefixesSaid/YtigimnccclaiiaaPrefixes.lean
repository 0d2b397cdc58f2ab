/-
  The law on proper prefixes, walked.
-/
import Derived.Test.YtigimnccclaiiaaFacts
namespace Go.Proofs.Ytigimnccclaiiaa
open Go.RowKit
open Go.Lib (uvarint)

theorem upto_list (c : ByteArray) (i : Nat) : (c.extract 0 i).data.toList = c.data.toList.take i := by
  rw [extract_list]; simp
theorem upto_size (c : ByteArray) (i : Nat) : (c.extract 0 i).size ≤ c.size := by simp; omega
theorem slice_upto (s : ByteArray) (a : Nat) (h : a ≤ s.size) {d : ByteArray} (hd : s.extract 0 a = d) (W : World) :
    (Instr.slice 9 (.string s) none (some (.int .i64 (a : Int))) none).run Try.prog W = .ok (.string d) W := by
  have := run_slice_string_h (P := Try.prog) W 9 s Try.underlying9 .i64 (a : Int) (by omega) (by omega)
  rw [this, ← hd]
  rfl
theorem cut_uint {u : Nat} (hu : u < 18446744073709551616) {c : ByteArray} (hc : c.data.toList = uvarint u) {i : Nat} (hi : i < c.size) (w : World) :
    Calls Try.prog 20 #[.string (c.extract 0 i), .int .i64 0] w fun e w' => e = .returned (.tuple #[.int .u64 0, .int .i64 0, .int .i64 6]) ∧ w = w' := by
  have h := uint_cut hu (k := i) (by rw [← hc, ← size_len]; exact hi)
  have hz : c.size ≤ 10 := by rw [size_len, hc]; exact Lib.uvarint_length64 hu
  have ht := take_any (c.extract 0 i) 0 (by omega) (by omega) (by have := upto_size c i; omega) w
  rw [upto_list, hc, h.1, h.2.1, h.2.2] at ht
  exact ht
theorem cut_text {s c : ByteArray} (hs : s.size ≤ 300) (hc : c.data.toList = text s.data.toList) {i : Nat} (hi : i < c.size) (m : Int) (hm : (s.size : Int) ≤ m) (hm2 : m ≤ 300) (w : World) :
    Calls Try.prog 26 #[.string (c.extract 0 i), .int .i64 0, .int .i64 m] w fun e w' => e = .returned (.tuple #[.string ⟨#[]⟩, .int .i64 0, .int .i64 6]) ∧ w = w' := by
  have hl : s.data.toList.length ≤ 300 := by rw [← size_len]; exact hs
  have h := text_cut hl (k := i) (by rw [← hc, ← size_len]; exact hi) (m := m) (by rw [← size_len]; exact hm)
  have hz : c.size ≤ 310 := by
    rw [size_len, hc, text_length]
    have := Lib.uvarint_length64 (x := s.data.toList.length) (by omega)
    omega
  rw [← hc, ← upto_list] at h
  have ht := takeText_err (c.extract 0 i) 0 m (by omega) (by omega) (by omega) (by omega) (by have := upto_size c i; omega) (by omega) w
  rw [h] at ht
  exact ht
set_option maxRecDepth 100000 in
theorem prefixes_core (u : Nat) (s c d : ByteArray) (hs : s.size ≤ 300) (hcz : c.size ≤ 10) (hdz : d.size ≤ 310) (hlt : s.size < d.size) (w : World)
    (h1 : ∀ w, Calls Try.prog 12 #[.int .u64 u] w fun e w' => e = .returned (.string c) ∧ Below w.heap.size w w')
    (h2 : ∀ w, Calls Try.prog 18 #[.string s] w fun e w' => e = .returned (.string d) ∧ Below w.heap.size w w')
    (h3 : ∀ i : Nat, i < c.size → ∀ w, Calls Try.prog 20 #[.string (c.extract 0 i), .int .i64 0] w fun e w' => e = .returned (.tuple #[.int .u64 0, .int .i64 0, .int .i64 6]) ∧ w = w')
    (h4 : ∀ i : Nat, i < d.size → ∀ w, Calls Try.prog 26 #[.string (d.extract 0 i), .int .i64 0, .int .i64 300] w fun e w' => e = .returned (.tuple #[.string ⟨#[]⟩, .int .i64 0, .int .i64 6]) ∧ w = w') :
    Calls Try.prog 7 #[.int .u64 u, .string s] w fun e w' => e = .returned (.bool true) ∧ Below w.heap.size w w' := by
  have H1 := Lib.hid h1
  have H2 := Lib.hid h2
  have H3 := Lib.hid h3
  have H4 := Lib.hid h4
  clear h1 h2 h3 h4
  go_enter Try.func7, Try.ntmps7
  go_wp2_with fail
  with_reducible refine (H1.out _).mono ?_
  rintro r w1 ⟨rfl, hb1⟩
  go_wp2_with fail
  go_loop [6] (fun vi => ∃ i : Nat, i ≤ c.size ∧ vi = .int .i64 i) (fun vi => c.size - (intOf vi).toNat)
  case atStart => exact ⟨0, Nat.zero_le _, rfl⟩
  case round =>
    obtain ⟨i, hi, rfl⟩ := hrel
    by_cases hic : i < c.size
    · have hsl := slice_upto c i hi rfl
      have HC := Lib.hid (H3.out i hic)
      generalize c.extract 0 i = ci at hsl HC
      go_wp2_with (go_at_call 20; refine (HC.out _).mono ?_; rintro e w' ⟨rfl, rfl⟩)
      go_round
      case rel => exact ⟨i + 1, by omega, by go_num⟩
      case measure => simp [intOf]; omega
    · obtain rfl : c.size = i := by omega
      go_wp2_with fail
      with_reducible refine (H2.out _).mono ?_
      rintro r w2 ⟨rfl, hb2⟩
      go_wp2_with fail
      go_loop [10] (fun vi => ∃ i : Nat, i ≤ d.size ∧ vi = .int .i64 i) (fun vi => d.size - (intOf vi).toNat)
      case atStart => exact ⟨0, Nat.zero_le _, rfl⟩
      case round =>
        obtain ⟨i, hi, rfl⟩ := hrel
        by_cases hid : i < d.size
        · have hsl := slice_upto d i hi rfl
          have HC := Lib.hid (H4.out i hid)
          generalize d.extract 0 i = di at hsl HC
          go_wp2_with (go_at_call 26; refine (HC.out _).mono ?_; rintro e w' ⟨rfl, rfl⟩)
          go_round
          case rel => exact ⟨i + 1, by omega, by go_num⟩
          case measure => simp [intOf]; omega
        · obtain rfl : d.size = i := by omega
          go_wp2_with (go_at_call 11; refine (lives_any _).mono ?_; rintro e w9 ⟨rfl, hb9⟩)
          go_ret
          exact ⟨rfl, below_2 (below_2 hb1 hb2) hb9⟩
theorem prefixes_walk (u : Nat) (hu : u < 18446744073709551616) (s : ByteArray) (hs : s.size ≤ 9223372036854775807) (w : World) :
    Calls Try.prog 7 #[.int .u64 u, .string s] w fun e w' => e = .returned (.bool true) ∧ Below w.heap.size w w' := by
  by_cases hl : 300 < s.size
  · go_enter Try.func7, Try.ntmps7
    go_wp2_with (go_at_call 11; refine (lives_any _).mono ?_; rintro e w3 ⟨rfl, hb3⟩)
    go_ret
    exact ⟨rfl, hb3⟩
  · have hz := Lib.uvarint_length64 hu
    have hx := text_length s.data.toList
    have hy := Lib.uvarint_length64 (x := s.data.toList.length) (by rw [← size_len]; omega)
    have hp := Lib.uvarint_pos s.data.toList.length
    rw [← size_len] at hx hy hp
    exact prefixes_core u s ⟨(uvarint u).toArray⟩ ⟨(text s.data.toList).toArray⟩ (by omega) (by rw [size_len]; exact hz) (by rw [size_len]; show (text s.data.toList).length ≤ _; omega) (by rw [size_len ⟨(text s.data.toList).toArray⟩]; show _ < (text s.data.toList).length; omega) w
      (uint_any u hu) (text_any s (by omega)) (fun i hi => cut_uint hu rfl hi) (fun i hi => cut_text (s := s) (by omega) rfl hi 300 (by omega) (by omega))
end Go.Proofs.Ytigimnccclaiiaa
