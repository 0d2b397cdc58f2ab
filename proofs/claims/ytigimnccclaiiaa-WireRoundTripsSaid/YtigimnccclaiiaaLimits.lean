/-
  The law on limits, walked.
-/
import Derived.Test.YtigimnccclaiiaaPrefixes
namespace Go.Proofs.Ytigimnccclaiiaa
open Go.RowKit
open Go.Lib (uvarint)

theorem slice_less (s : ByteArray) (h : 0 < s.size) {d : ByteArray} (hd : s.extract 0 (s.size - 1) = d) (W : World) :
    (Instr.slice 9 (.string s) none (some (.int .i64 ((s.size : Int) - 1))) none).run Try.prog W = .ok (.string d) W := by
  have := slice_upto s (s.size - 1) (by omega) hd W
  rw [show (((s.size - 1 : Nat)) : Int) = (s.size : Int) - 1 by omega] at this
  exact this
theorem text_zero (t : List UInt8) (ht : t.length ≤ 300) {m : Int} (hm : (t.length : Int) ≤ m) :
    xE (text t) 0 m = 0 ∧ xV (text t) 0 m = t ∧ xN (text t) 0 m = (text t).length ∧ cV (text t) 0 m = t.length ∧ cN (text t) 0 m = ((text t).length : Int) - t.length := by
  have h := text_at [] [] t (by omega) hm
  rw [List.append_nil, List.nil_append] at h
  change xE (text t) 0 m = 0 ∧ xV (text t) 0 m = t ∧ xN (text t) 0 m = _ ∧ cV (text t) 0 m = _ ∧ cN (text t) 0 m = _ at h
  refine ⟨h.1, h.2.1, ?_, h.2.2.2.1, ?_⟩
  · rw [h.2.2.1]; simp
  · rw [h.2.2.2.2, text_length]; simp only [List.length_nil]; omega
theorem cut_count {s c : ByteArray} (hs : s.size ≤ 300) (hc : c.data.toList = text s.data.toList) {i : Nat} (hi : i < c.size) (m : Int) (hm : (s.size : Int) ≤ m) (hm2 : m ≤ 300) (w : World) :
    Calls Try.prog 28 #[.string (c.extract 0 i), .int .i64 0, .int .i64 m] w fun e w' => e = .returned (.tuple #[.int .i64 0, .int .i64 0, .int .i64 6]) ∧ w = w' := by
  have hl : s.data.toList.length ≤ 300 := by rw [← size_len]; exact hs
  have h := text_cut hl (k := i) (by rw [← hc, ← size_len]; exact hi) (m := m) (by rw [← size_len]; exact hm)
  have hz : c.size ≤ 310 := by
    rw [size_len, hc, text_length]
    have := Lib.uvarint_length64 (x := s.data.toList.length) (by omega)
    omega
  rw [← hc, ← upto_list] at h
  have ht := takeCount_any (c.extract 0 i) 0 m (by omega) (by omega) (by omega) (by omega) (by have := upto_size c i; omega) w
  have hxe := x_err (l := (c.extract 0 i).data.toList) (at_ := 0) (most := m) (by omega)
  rw [hxe.2.2.1, hxe.2.2.2, h] at ht
  exact ht
set_option maxRecDepth 100000 in
theorem limits_core (s d c : ByteArray) (hs : s.size ≤ 300) (hdz : d.size ≤ 310) (hlt : s.size < d.size) (w : World)
    (hsl : ∀ W, (Instr.slice 9 (.string d) none (some (.int .i64 ((d.size : Int) - 1))) none).run Try.prog W = .ok (.string c) W)
    (h1 : ∀ w, Calls Try.prog 18 #[.string s] w fun e w' => e = .returned (.string d) ∧ Below w.heap.size w w')
    (h2 : ∀ w, Calls Try.prog 26 #[.string d, .int .i64 0, .int .i64 s.size] w fun e w' => e = .returned (.tuple #[.string s, .int .i64 d.size, .int .i64 0]) ∧ Below w.heap.size w w')
    (h3 : ∀ w, Calls Try.prog 26 #[.string d, .int .i64 0, .int .i64 ((s.size : Int) - 1)] w fun e w' => e = .returned (.tuple #[.string ⟨#[]⟩, .int .i64 0, .int .i64 2]) ∧ w = w')
    (h4 : ∀ w, Calls Try.prog 28 #[.string d, .int .i64 0, .int .i64 s.size] w fun e w' => e = .returned (.tuple #[.int .i64 s.size, .int .i64 ((d.size : Int) - s.size), .int .i64 0]) ∧ w = w')
    (h5 : ∀ w, Calls Try.prog 28 #[.string d, .int .i64 0, .int .i64 ((s.size : Int) - 1)] w fun e w' => e = .returned (.tuple #[.int .i64 0, .int .i64 0, .int .i64 2]) ∧ w = w')
    (h6 : ∀ w, Calls Try.prog 26 #[.string c, .int .i64 0, .int .i64 s.size] w fun e w' => e = .returned (.tuple #[.string ⟨#[]⟩, .int .i64 0, .int .i64 6]) ∧ w = w')
    (h7 : ∀ w, Calls Try.prog 28 #[.string c, .int .i64 0, .int .i64 s.size] w fun e w' => e = .returned (.tuple #[.int .i64 0, .int .i64 0, .int .i64 6]) ∧ w = w')
    (hz : ((s.size : Int) == 0) = true ∨ ((s.size : Int) == 0) = false) :
    Calls Try.prog 10 #[.string s] w fun e w' => e = .returned (.bool true) ∧ Below w.heap.size w w' := by
  have H1 := Lib.hid h1
  have H2 := Lib.hid h2
  have H3 := Lib.hid h3
  have H4 := Lib.hid h4
  have H5 := Lib.hid h5
  have H6 := Lib.hid h6
  have H7 := Lib.hid h7
  clear h1 h2 h3 h4 h5 h6 h7
  rcases hz with hz | hz
  all_goals
    go_enter Try.func10, Try.ntmps10
    go_wp2_with fail
    with_reducible refine (H1.out _).mono ?_
    rintro r w1 ⟨rfl, hb1⟩
    go_wp2_with fail
    with_reducible refine (H2.out _).mono ?_
    rintro r w2 ⟨rfl, hb2⟩
    go_wp2_with fail
    with_reducible refine (H3.out _).mono ?_
    rintro r w3 ⟨rfl, rfl⟩
    go_wp2_with fail
    with_reducible refine (H4.out _).mono ?_
    rintro r w3 ⟨rfl, rfl⟩
    go_wp2_with fail
    with_reducible refine (H5.out _).mono ?_
    rintro r w3 ⟨rfl, rfl⟩
  · go_wp2_with (go_at_call 11; refine (lives_any _).mono ?_; rintro e w9 ⟨rfl, hb9⟩)
    go_ret
    exact ⟨rfl, below_2 (below_2 hb1 hb2) hb9⟩
  · go_wp2_with fail
    with_reducible refine (H6.out _).mono ?_
    rintro r w3 ⟨rfl, rfl⟩
    go_wp2_with fail
    with_reducible refine (H7.out _).mono ?_
    rintro r w3 ⟨rfl, rfl⟩
    go_wp2_with (go_at_call 11; refine (lives_any _).mono ?_; rintro e w9 ⟨rfl, hb9⟩)
    go_ret
    exact ⟨rfl, below_2 (below_2 hb1 hb2) hb9⟩
theorem limits_walk (s : ByteArray) (hs : s.size ≤ 9223372036854775807) (w : World) :
    Calls Try.prog 10 #[.string s] w fun e w' => e = .returned (.bool true) ∧ Below w.heap.size w w' := by
  by_cases hl : 300 < s.size
  · go_enter Try.func10, Try.ntmps10
    go_wp2_with (go_at_call 11; refine (lives_any _).mono ?_; rintro e w3 ⟨rfl, hb3⟩)
    go_ret
    exact ⟨rfl, hb3⟩
  · have hlen : s.data.toList.length ≤ 300 := by rw [← size_len]; omega
    have hy := Lib.uvarint_length64 (x := s.data.toList.length) (by omega)
    have hp := Lib.uvarint_pos s.data.toList.length
    have hx := text_length s.data.toList
    have hlim := text_limit s.data.toList (by omega)
    have hat := text_zero s.data.toList hlen (m := s.data.toList.length) (by omega)
    have hxe := x_err (l := text s.data.toList) (at_ := 0) (most := (s.data.toList.length : Int) - 1) (by rw [hlim]; decide)
    have h1 := text_any s (by omega)
    have hd : (ByteArray.mk (text s.data.toList).toArray).data.toList = text s.data.toList := rfl
    generalize ByteArray.mk (text s.data.toList).toArray = d at hd h1
    rw [← hd] at hx hat hlim hxe
    rw [← size_len d] at hx hat
    rw [← size_len s] at hx hat hlim hxe hy hp hlen
    have h2 := takeText_any d 0 s.size (by omega) (by omega) (by omega) (by omega) (by omega)
    have h4 := takeCount_any d 0 s.size (by omega) (by omega) (by omega) (by omega) (by omega)
    have h3 := takeText_err d 0 ((s.size : Int) - 1) (by omega) (by omega) (by omega) (by omega) (by omega) (by rw [hlim]; decide)
    have h5 := takeCount_any d 0 ((s.size : Int) - 1) (by omega) (by omega) (by omega) (by omega) (by omega)
    rw [hlim] at h3 h5
    rw [hxe.2.2.1, hxe.2.2.2] at h5
    rw [hat.1, hat.2.1, hat.2.2.1] at h2
    rw [hat.1, hat.2.2.2.1, hat.2.2.2.2] at h4
    have h6 := fun w => cut_text (s := s) (c := d) (by omega) hd (i := d.size - 1) (by omega) s.size (by omega) (by omega) w
    have h7 := fun w => cut_count (s := s) (c := d) (by omega) hd (i := d.size - 1) (by omega) s.size (by omega) (by omega) w
    refine limits_core s d _ (by omega) (by omega) (by omega) w (slice_less d (by omega) rfl) h1 h2 h3 h4 h5 h6 h7 ?_
    cases ((s.size : Int) == 0)
    · exact Or.inr rfl
    · exact Or.inl rfl
end Go.Proofs.Ytigimnccclaiiaa
