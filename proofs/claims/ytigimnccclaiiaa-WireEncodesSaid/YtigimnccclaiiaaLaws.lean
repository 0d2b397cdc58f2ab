/-
  The laws that hold the program against the reference, walked.
-/
import Derived.Test.YtigimnccclaiiaaLives
namespace Go.Proofs.Ytigimnccclaiiaa
open Go.RowKit
open Go.Lib (uvarint zigzag)

set_option maxRecDepth 100000 in
theorem encodes_walk (u : Nat) (hu : u < 18446744073709551616) (n : Int) (h0 : -9223372036854775808 ≤ n) (h1 : n ≤ 9223372036854775807) (s : ByteArray) (hs : s.size ≤ 9223372036854775807) (w : World) :
    Calls Try.prog 3 #[.int .u64 u, .int .i64 n, .string s] w fun e w' => e = .returned (.bool true) ∧ Below w.heap.size w w' := by
  by_cases hl : 2000 < s.size
  · go_enter Try.func3, Try.ntmps3
    go_wp2_with (go_at_call 11; refine (lives_any _).mono ?_; rintro e w3 ⟨rfl, hb3⟩)
    go_ret
    exact ⟨rfl, hb3⟩
  · have hx1 := text_any s (by omega)
    have hx2 := rtext_any s (by omega)
    generalize ByteArray.mk (text s.data.toList).toArray = t at hx1 hx2
    have hu1 := uint_any u hu
    have hu2 := ruint_any u hu
    generalize ByteArray.mk (uvarint u).toArray = c at hu1 hu2
    have hi1 := int_any n h0 h1
    have hi2 := rint_any n h0 h1
    generalize ByteArray.mk (intText n).toArray = d at hi1 hi2
    have HX1 := Lib.hid hx1
    have HX2 := Lib.hid hx2
    have HU1 := Lib.hid hu1
    have HU2 := Lib.hid hu2
    have HI1 := Lib.hid hi1
    have HI2 := Lib.hid hi2
    clear hx1 hx2 hu1 hu2 hi1 hi2
    go_enter Try.func3, Try.ntmps3
    go_wp2_with (first
      | (go_at_call 12; refine (HU1.out _).mono ?_; rintro e w1 ⟨rfl, hb1⟩)
      | (go_at_call 13; refine (HU2.out _).mono ?_; rintro e w2 ⟨rfl, hb2⟩)
      | (go_at_call 14; refine (HI1.out _).mono ?_; rintro e w3 ⟨rfl, hb3⟩)
      | (go_at_call 15; refine (HI2.out _).mono ?_; rintro e w4 ⟨rfl, hb4⟩)
      | (go_at_call 16; refine (bool_any _ _).mono ?_; rintro e w5 ⟨rfl, rfl⟩)
      | (go_at_call 17; refine (rbool_any _ _).mono ?_; rintro e w5 ⟨rfl, rfl⟩)
      | (go_at_call 18; refine (HX1.out _).mono ?_; rintro e w7 ⟨rfl, hb7⟩)
      | (go_at_call 19; refine (HX2.out _).mono ?_; rintro e w8 ⟨rfl, hb8⟩)
      | (go_at_call 11; refine (lives_any _).mono ?_; rintro e w9 ⟨rfl, hb9⟩))
    go_ret
    exact ⟨rfl, below_2 (below_2 (below_2 (below_2 (below_2 (below_2 hb1 hb2) hb3) hb4) hb7) hb8) hb9⟩
set_option maxRecDepth 100000 in
theorem takes_walk (s : ByteArray) (hs : s.size ≤ 9223372036854775807) (a : Int) (h0 : -9223372036854775808 ≤ a) (h1 : a ≤ 9223372036854775807) (w : World) :
    Calls Try.prog 4 #[.string s, .int .i64 a] w fun e w' => e = .returned (.bool true) ∧ Below w.heap.size w w' := by
  by_cases hl : 300 < s.size
  · go_enter Try.func4, Try.ntmps4
    go_wp2_with (go_at_call 11; refine (lives_any _).mono ?_; rintro e w3 ⟨rfl, hb3⟩)
    go_ret
    exact ⟨rfl, hb3⟩
  · have ht1 := take_any s a h0 h1 (by omega)
    have ht2 := rtake_any s a h0 h1 (by omega)
    have hi1 := takeInt_any s a h0 h1 (by omega)
    have hi2 := rtakeInt_any s a h0 h1 (by omega)
    have hb1 := takeBool_any s a h0 h1 (by omega)
    have hb2 := rtakeBool_any s a h0 h1 (by omega)
    generalize tV s.data.toList a = v at ht1 ht2
    generalize tN s.data.toList a = n at ht1 ht2 hi1 hi2
    generalize tE s.data.toList a = e at ht1 ht2 hi1 hi2
    generalize iV s.data.toList a = i at hi1 hi2
    generalize bV s.data.toList a = b at hb1 hb2
    generalize bN s.data.toList a = bn at hb1 hb2
    generalize bE s.data.toList a = be at hb1 hb2
    have HT1 := Lib.hid ht1
    have HT2 := Lib.hid ht2
    have HI1 := Lib.hid hi1
    have HI2 := Lib.hid hi2
    have HB1 := Lib.hid hb1
    have HB2 := Lib.hid hb2
    clear ht1 ht2 hi1 hi2 hb1 hb2
    go_enter Try.func4, Try.ntmps4
    go_wp2_with (first
      | (go_at_call 20; refine (HT1.out _).mono ?_; rintro e w' ⟨rfl, rfl⟩)
      | (go_at_call 21; refine (HT2.out _).mono ?_; rintro e w' ⟨rfl, rfl⟩)
      | (go_at_call 22; refine (HI1.out _).mono ?_; rintro e w' ⟨rfl, rfl⟩)
      | (go_at_call 23; refine (HI2.out _).mono ?_; rintro e w' ⟨rfl, rfl⟩)
      | (go_at_call 24; refine (HB1.out _).mono ?_; rintro e w' ⟨rfl, rfl⟩)
      | (go_at_call 25; refine (HB2.out _).mono ?_; rintro e w' ⟨rfl, rfl⟩)
      | (go_at_call 11; refine (lives_any _).mono ?_; rintro e w9 ⟨rfl, hb9⟩))
    go_ret
    exact ⟨rfl, hb9⟩
set_option maxRecDepth 100000 in
theorem texts_walk (s : ByteArray) (hs : s.size ≤ 9223372036854775807) (a m : Int) (h0 : -9223372036854775808 ≤ a) (h1 : a ≤ 9223372036854775807) (h2 : -9223372036854775808 ≤ m) (h3 : m ≤ 9223372036854775807) (w : World) :
    Calls Try.prog 5 #[.string s, .int .i64 a, .int .i64 m] w fun e w' => e = .returned (.bool true) ∧ Below w.heap.size w w' := by
  by_cases hl : 300 < s.size
  · go_enter Try.func5, Try.ntmps5
    go_wp2_with (go_at_call 11; refine (lives_any _).mono ?_; rintro e w3 ⟨rfl, hb3⟩)
    go_ret
    exact ⟨rfl, hb3⟩
  · have ht1 := takeText_any s a m h0 h1 h2 h3 (by omega)
    have ht2 := rtakeText_any s a m h0 h1 h2 h3 (by omega)
    have hc1 := takeCount_any s a m h0 h1 h2 h3 (by omega)
    have hc2 := rtakeCount_any s a m h0 h1 h2 h3 (by omega)
    generalize ByteArray.mk (xV s.data.toList a m).toArray = v at ht1 ht2
    generalize xN s.data.toList a m = n at ht1 ht2
    generalize xE s.data.toList a m = e at ht1 ht2 hc1 hc2
    generalize cV s.data.toList a m = cv at hc1 hc2
    generalize cN s.data.toList a m = cn at hc1 hc2
    have HT1 := Lib.hid ht1
    have HT2 := Lib.hid ht2
    have HC1 := Lib.hid hc1
    have HC2 := Lib.hid hc2
    clear ht1 ht2 hc1 hc2
    go_enter Try.func5, Try.ntmps5
    go_wp2_with (first
      | (go_at_call 26; refine (HT1.out _).mono ?_; rintro e w1 ⟨rfl, hb1⟩)
      | (go_at_call 27; refine (HT2.out _).mono ?_; rintro e w' ⟨rfl, rfl⟩)
      | (go_at_call 28; refine (HC1.out _).mono ?_; rintro e w' ⟨rfl, rfl⟩)
      | (go_at_call 29; refine (HC2.out _).mono ?_; rintro e w' ⟨rfl, rfl⟩)
      | (go_at_call 11; refine (lives_any _).mono ?_; rintro e w9 ⟨rfl, hb9⟩))
    go_ret
    exact ⟨rfl, below_2 hb1 hb9⟩
end Go.Proofs.Ytigimnccclaiiaa
