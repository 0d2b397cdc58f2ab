/-
  What TakeCount and TakeText return, of the program and of the reference: one contract a function, for every text, every offset and every limit.
-/
import Derived.Test.YtcedndjpdgpdgaaDoorWTakes
namespace Go.Proofs.YtcedndjpdgpdgaaDoor.W
open Go.RowKit

theorem extract_list (s : ByteArray) (a b : Nat) : (s.extract a b).data.toList = (s.data.toList.drop a).take (b - a) := by
  simp
theorem tV_in {s : ByteArray} {at_ most : Int} (h : xE s.data.toList at_ most = 0) :
    ∃ n v : Nat, tN s.data.toList at_ = n ∧ tV s.data.toList at_ = v ∧ n + v ≤ s.size ∧ (v : Int) ≤ most ∧ 0 < n := by
  have h1 := xE_zero h
  have h2 := tN_bd h1.1
  have h3 := tV_bd s.data.toList at_
  rw [← size_len] at h1 h2
  exact ⟨(tN s.data.toList at_).toNat, (tV s.data.toList at_).toNat, by omega, by omega, by omega, by omega, by omega⟩
set_option maxRecDepth 100000 in
theorem takeCount_any (s : ByteArray) (at_ most : Int) (h0 : -9223372036854775808 ≤ at_) (h1 : at_ ≤ 9223372036854775807) (h2 : -9223372036854775808 ≤ most) (h3 : most ≤ 9223372036854775807) (hs : s.size ≤ 1000000) (w : World) :
    Calls Tryd.prog 84 #[.string s, .int .i64 at_, .int .i64 most] w fun e w' => e = .returned (.tuple #[.int .i64 (cV s.data.toList at_ most), .int .i64 (cN s.data.toList at_ most), .int .i64 (xE s.data.toList at_ most)]) ∧ w = w' := by
  have ht := take_any s at_ h0 h1 (by omega)
  by_cases he : tE s.data.toList at_ = 0
  · have hv := tV_bd s.data.toList at_
    have hn := tN_bd he
    rw [← size_len] at hn
    by_cases hl : most < 0 ∨ most < tV s.data.toList at_
    · have hx := xE_limit he hl
      have hy := x_err (most := most) (by rw [hx]; decide)
      rw [hx, hy.2.2.1, hy.2.2.2]
      rw [he] at ht
      clear hx hy he
      generalize tV s.data.toList at_ = v at ht hv hl
      generalize tN s.data.toList at_ = n at ht hn
      by_cases hm : most < 0
      · clear hl
        go_enter Tryd.func84, Tryd.ntmps84
        go_wp2_with fail
        refine (ht _).mono ?_; rintro e w' ⟨rfl, rfl⟩
        go_wp2
        go_ret3
        exact ⟨rfl, rfl⟩
      · have hl' : most < v := by omega
        clear hl
        go_enter Tryd.func84, Tryd.ntmps84
        go_wp2_with fail
        refine (ht _).mono ?_; rintro e w' ⟨rfl, rfl⟩
        go_wp2
        go_ret3
        exact ⟨rfl, rfl⟩
    · by_cases hc : (s.data.toList.length : Int) - tN s.data.toList at_ < tV s.data.toList at_
      · have hx := xE_short he hl hc
        have hy := x_err (most := most) (by rw [hx]; decide)
        rw [hx, hy.2.2.1, hy.2.2.2]
        rw [he] at ht
        rw [← size_len] at hc
        clear hx hy he
        generalize tV s.data.toList at_ = v at ht hv hl hc
        generalize tN s.data.toList at_ = n at ht hn hc
        have hm : ¬ most < 0 := by omega
        have hl' : v ≤ most := by omega
        clear hl
        go_enter Tryd.func84, Tryd.ntmps84
        go_wp2_with fail
        refine (ht _).mono ?_; rintro e w' ⟨rfl, rfl⟩
        go_wp2
        go_ret3
        exact ⟨rfl, rfl⟩
      · have hx := xE_ok he hl hc
        have hy := x_ok hx
        rw [hx, hy.2.2.1, hy.2.2.2]
        rw [he] at ht
        rw [← size_len] at hc
        clear hx hy he
        generalize tV s.data.toList at_ = v at ht hv hl hc ⊢
        generalize tN s.data.toList at_ = n at ht hn hc ⊢
        have hm : ¬ most < 0 := by omega
        have hl' : v ≤ most := by omega
        clear hl
        go_enter Tryd.func84, Tryd.ntmps84
        go_wp2_with fail
        refine (ht _).mono ?_; rintro e w' ⟨rfl, rfl⟩
        go_wp2
        go_ret3
        exact ⟨rfl, rfl⟩
  · have hx := xE_t most he
    have hy := x_err (most := most) (by rw [hx]; exact he)
    rw [hx, hy.2.2.1, hy.2.2.2]
    have h4 := t_err he
    rw [h4.1, h4.2] at ht
    clear hx hy h4
    generalize tE s.data.toList at_ = e at ht he ⊢
    have hn : (e != 0) = true := bne_iff_ne.2 he
    clear he
    go_enter Tryd.func84, Tryd.ntmps84
    go_wp2_with fail
    refine (ht _).mono ?_; rintro e w' ⟨rfl, rfl⟩
    go_wp2
    go_ret3
    exact ⟨rfl, rfl⟩
theorem slice_eq (s : ByteArray) (n v : Nat) : s.extract n (n + v) = ⟨((s.data.toList.drop n).take v).toArray⟩ := by
  refine WideShapes.bytes_inj ?_
  rw [extract_list, Nat.add_sub_cancel_left]
theorem slice_run (s : ByteArray) (n v : Nat) (h : n + v ≤ s.size) {d : ByteArray} (hd : s.extract n (n + v) = d) (W : World) :
    (Instr.slice 9 (.string s) (some (.int .i64 (n : Int))) (some (.int .i64 ((n : Int) + (v : Int)))) none).run Tryd.prog W = .ok (.string d) W := by
  have := run_slice_string (P := Tryd.prog) W 9 s .i64 .i64 (n : Int) ((n : Int) + (v : Int)) Tryd.underlying9 (by omega) (by omega) (by omega)
  rw [this, ← hd]
  rfl
/-- strings.Clone -/
theorem clone_any (s : ByteArray) (w : World) (hs : s.size ≤ 281474976710656) :
    Calls Tryd.prog 30 #[.string s] w fun e w' => e = .returned (.string s) ∧ Below w.heap.size w w' := by
  go_enter Tryd.func30, Tryd.ntmps30
  go_wp2_with (go_at_call 58; refine (Tryd.stringslite_Clone _ _ hs).mono ?_; rintro e w' ⟨rfl, hb⟩)
  go_ret
  exact ⟨rfl, hb⟩
set_option maxRecDepth 100000 in
theorem takeText_any (s : ByteArray) (at_ most : Int) (h0 : -9223372036854775808 ≤ at_) (h1 : at_ ≤ 9223372036854775807) (h2 : -9223372036854775808 ≤ most) (h3 : most ≤ 9223372036854775807) (hs : s.size ≤ 1000000) (w : World) :
    Calls Tryd.prog 75 #[.string s, .int .i64 at_, .int .i64 most] w fun e w' => e = .returned (.tuple #[.string ⟨(xV s.data.toList at_ most).toArray⟩, .int .i64 (xN s.data.toList at_ most), .int .i64 (xE s.data.toList at_ most)]) ∧ Below w.heap.size w w' := by
  have ht := takeCount_any s at_ most h0 h1 h2 h3 hs
  by_cases he : xE s.data.toList at_ most = 0
  · obtain ⟨n, v, hn, hv, hsz, hm, hn0⟩ := tV_in he
    have hx := x_ok he
    rw [he, hx.2.2.1, hx.2.2.2, hn, hv] at ht
    rw [he, hx.1, hx.2.1, hn, hv]
    have HD := Lib.hid (slice_eq s n v)
    rw [Int.toNat_natCast, Int.toNat_natCast]
    generalize ByteArray.mk ((s.data.toList.drop n).take v).toArray = d at HD ⊢
    have hdz : d.size ≤ 281474976710656 := by rw [← HD.out]; simp; omega
    have hsl := slice_run s n v hsz HD.out
    clear he hn hv hx h2 h3 hm HD
    go_enter Tryd.func75, Tryd.ntmps75
    go_wp2_with fail
    refine (ht _).mono ?_; rintro e w' ⟨rfl, rfl⟩
    go_wp2_with (first | (go_at_call 30; refine (clone_any _ _ hdz).mono ?_; rintro e w' ⟨rfl, hb⟩) | fail)
    go_ret3
    exact ⟨rfl, hb⟩
  · have hx := x_err he
    rw [hx.2.2.1, hx.2.2.2] at ht
    rw [hx.1, hx.2.1]
    generalize xE s.data.toList at_ most = e at ht he ⊢
    have hn : (e != 0) = true := bne_iff_ne.2 he
    clear he hx
    go_enter Tryd.func75, Tryd.ntmps75
    go_wp2_with fail
    refine (ht _).mono ?_; rintro e w' ⟨rfl, rfl⟩
    go_wp2
    go_ret3
    exact ⟨rfl, Below.refl _ _⟩
/-- With an error no memory is made. -/
theorem takeText_err (s : ByteArray) (at_ most : Int) (h0 : -9223372036854775808 ≤ at_) (h1 : at_ ≤ 9223372036854775807) (h2 : -9223372036854775808 ≤ most) (h3 : most ≤ 9223372036854775807) (hs : s.size ≤ 1000000) (he : xE s.data.toList at_ most ≠ 0) (w : World) :
    Calls Tryd.prog 75 #[.string s, .int .i64 at_, .int .i64 most] w fun e w' => e = .returned (.tuple #[.string ⟨#[]⟩, .int .i64 0, .int .i64 (xE s.data.toList at_ most)]) ∧ w = w' := by
  have ht := takeCount_any s at_ most h0 h1 h2 h3 hs
  have hx := x_err he
  rw [hx.2.2.1, hx.2.2.2] at ht
  generalize xE s.data.toList at_ most = e at ht he ⊢
  have hn : (e != 0) = true := bne_iff_ne.2 he
  clear he hx
  go_enter Tryd.func75, Tryd.ntmps75
  go_wp2_with fail
  refine (ht _).mono ?_; rintro e w' ⟨rfl, rfl⟩
  go_wp2
  go_ret3
  exact ⟨rfl, rfl⟩
set_option maxRecDepth 100000 in
theorem rtakeText_any (s : ByteArray) (at_ most : Int) (h0 : -9223372036854775808 ≤ at_) (h1 : at_ ≤ 9223372036854775807) (h2 : -9223372036854775808 ≤ most) (h3 : most ≤ 9223372036854775807) (hs : s.size ≤ 1000000) (w : World) :
    Calls Tryd.prog 56 #[.string s, .int .i64 at_, .int .i64 most] w fun e w' => e = .returned (.tuple #[.string ⟨(xV s.data.toList at_ most).toArray⟩, .int .i64 (xN s.data.toList at_ most), .int .i64 (xE s.data.toList at_ most)]) ∧ w = w' := by
  have ht := rtake_any s at_ h0 h1 hs
  by_cases he : tE s.data.toList at_ = 0
  · have hv := tV_bd s.data.toList at_
    have hn := tN_bd he
    rw [← size_len] at hn
    by_cases hl : most < 0 ∨ most < tV s.data.toList at_
    · have hx := xE_limit he hl
      have hy := x_err (most := most) (by rw [hx]; decide)
      rw [hx, hy.1, hy.2.1]
      rw [he] at ht
      clear hx hy he
      generalize tV s.data.toList at_ = v at ht hv hl
      generalize tN s.data.toList at_ = n at ht hn
      by_cases hm : most < 0
      · clear hl
        go_enter Tryd.func56, Tryd.ntmps56
        go_wp2_with fail
        refine (ht _).mono ?_; rintro e w' ⟨rfl, rfl⟩
        go_wp2
        go_ret3
        exact ⟨rfl, rfl⟩
      · have hl' : most < v := by omega
        clear hl
        go_enter Tryd.func56, Tryd.ntmps56
        go_wp2_with fail
        refine (ht _).mono ?_; rintro e w' ⟨rfl, rfl⟩
        go_wp2
        go_ret3
        exact ⟨rfl, rfl⟩
    · by_cases hc : (s.data.toList.length : Int) - tN s.data.toList at_ < tV s.data.toList at_
      · have hx := xE_short he hl hc
        have hy := x_err (most := most) (by rw [hx]; decide)
        rw [hx, hy.1, hy.2.1]
        rw [he] at ht
        rw [← size_len] at hc
        clear hx hy he
        generalize tV s.data.toList at_ = v at ht hv hl hc
        generalize tN s.data.toList at_ = n at ht hn hc
        have hm : ¬ most < 0 := by omega
        have hl' : v ≤ most := by omega
        clear hl
        go_enter Tryd.func56, Tryd.ntmps56
        go_wp2_with fail
        refine (ht _).mono ?_; rintro e w' ⟨rfl, rfl⟩
        go_wp2
        go_ret3
        exact ⟨rfl, rfl⟩
      · have hx := xE_ok he hl hc
        obtain ⟨n, v, hn, hv, hsz, hm, hn0⟩ := tV_in hx
        have hy := x_ok hx
        rw [hx, hy.1, hy.2.1, hn, hv]
        rw [he, hn, hv] at ht
        have HD := Lib.hid (slice_eq s n v)
        rw [Int.toNat_natCast, Int.toNat_natCast]
        generalize ByteArray.mk ((s.data.toList.drop n).take v).toArray = d at HD ⊢
        have hsl := slice_run s n v hsz HD.out
        have hm0 : ¬ most < 0 := by omega
        have hsz' : (v : Int) ≤ (s.size : Int) - n := by omega
        clear he hn hv hx hy HD hl hc
        go_enter Tryd.func56, Tryd.ntmps56
        go_wp2_with fail
        refine (ht _).mono ?_; rintro e w' ⟨rfl, rfl⟩
        go_wp2
        go_ret3
        exact ⟨rfl, rfl⟩
  · have hx := xE_t most he
    have hy := x_err (most := most) (by rw [hx]; exact he)
    rw [hx, hy.1, hy.2.1]
    have h4 := t_err he
    rw [h4.1, h4.2] at ht
    clear hx hy h4
    generalize tE s.data.toList at_ = e at ht he ⊢
    have hn : (e != 0) = true := bne_iff_ne.2 he
    clear he
    go_enter Tryd.func56, Tryd.ntmps56
    go_wp2_with fail
    refine (ht _).mono ?_; rintro e w' ⟨rfl, rfl⟩
    go_wp2
    go_ret3
    exact ⟨rfl, rfl⟩
end Go.Proofs.YtcedndjpdgpdgaaDoor.W
