/-
  The law on decoding at an offset, walked.
-/
import Derived.Test.YtigimnccclaiiaaLives
namespace Go.Proofs.Ytigimnccclaiiaa
open Go.RowKit

theorem from_drop (l : List UInt8) (a : Nat) : from_ (l.drop a) 0 = from_ l a := rfl
theorem shift_t {l : List UInt8} {a : Nat} (ha : a ≤ l.length) :
    tV (l.drop a) 0 = tV l a ∧ tE (l.drop a) 0 = tE l a ∧ (tE l a = 0 → tN (l.drop a) 0 + a = tN l a) := by
  have ho : outside l a = false := in_false ha
  have hp : outside (l.drop a) 0 = false := in_false (a := 0) (Nat.zero_le _)
  have h1 := tE_in ho
  have h2 := tE_in hp
  rw [from_drop] at h2
  refine ⟨h2.1.trans h1.1.symm, h2.2.trans h1.2.symm, fun he => ?_⟩
  unfold tN
  rw [if_pos he, if_pos (h2.2.trans (h1.2.symm.trans he)), from_drop]
  omega
theorem shift_x {l : List UInt8} {a : Nat} (ha : a ≤ l.length) (m : Int) :
    xE (l.drop a) 0 m = xE l a m ∧ xV (l.drop a) 0 m = xV l a m ∧ (xE l a m = 0 → xN (l.drop a) 0 m + a = xN l a m) := by
  have h := shift_t ha
  have he : xE (l.drop a) 0 m = xE l a m := by
    unfold xE
    rw [h.1, h.2.1]
    by_cases h0 : tE l a = 0
    · have := h.2.2 h0
      rw [List.length_drop, show (((l.length - a : Nat) : Int) - tN (l.drop a) 0) = (l.length : Int) - tN l a by omega]
    · rw [if_pos h0, if_pos h0]
  refine ⟨he, ?_, fun hz => ?_⟩
  · unfold xV
    rw [he]
    by_cases hz : xE l a m = 0
    · rw [if_pos hz, if_pos hz, h.1]
      have h0 := (xE_zero hz).1
      have h1 := h.2.2 h0
      have h2 := tN_bd h0
      have h3 := tN_bd (l := l.drop a) (at_ := 0) (h.2.1.trans h0)
      rw [List.drop_drop, show a + (tN (l.drop a) 0).toNat = (tN l a).toNat by omega]
    · rw [if_neg hz, if_neg hz]
  · unfold xN
    rw [he, if_pos hz, if_pos hz, h.1]
    have := h.2.2 (xE_zero hz).1
    omega
theorem slice_rest (s : ByteArray) (a : Nat) (h : a ≤ s.size) {d : ByteArray} (hd : s.extract a s.size = d) (W : World) :
    (Instr.slice 9 (.string s) (some (.int .i64 (a : Int))) none none).run Try.prog W = .ok (.string d) W := by
  have := run_slice_string_l (P := Try.prog) W 9 s Try.underlying9 .i64 (a : Int) (by omega) (by omega)
  rw [this, ← hd]
  rfl
/-- outside, or too long: only the error of TakeUint is asked -/
theorem shifts_out (s : ByteArray) (hs : s.size ≤ 9223372036854775807) (a : Int) (h0 : -9223372036854775808 ≤ a) (h1 : a ≤ 9223372036854775807) (hl : 300 < s.size ∨ outside s.data.toList a = true) (w : World) :
    Calls Try.prog 8 #[.string s, .int .i64 a] w fun e w' => e = .returned (.bool true) ∧ Below w.heap.size w w' := by
  have ht := take_any s a h0 h1 hs
  generalize tV s.data.toList a = v at ht
  generalize tN s.data.toList a = n at ht
  cases ho : outside s.data.toList a
  · have h300 : 300 < s.size := by
      rcases hl with h | h
      · exact h
      · rw [ho] at h; cases h
    have hb := outside_false ho
    rw [← size_len] at hb
    have ha0 : ¬ a < 0 := by omega
    have ha1 : a ≤ (s.size : Int) := by omega
    generalize tE s.data.toList a = e at ht
    clear ho hl hb
    have HT := Lib.hid ht
    clear ht
    go_enter Try.func8, Try.ntmps8
    go_wp2_with (first
      | (go_at_call 20; refine (HT.out _).mono ?_; rintro e w' ⟨rfl, rfl⟩)
      | (go_at_call 11; refine (lives_any _).mono ?_; rintro e w9 ⟨rfl, hb9⟩))
    go_ret
    exact ⟨rfl, hb9⟩
  · rw [(tE_out ho).2.1] at ht
    have hb := outside_true ho
    rw [← size_len] at hb
    have HT := Lib.hid ht
    clear ho hl ht
    by_cases ha0 : a < 0
    · clear hb
      go_enter Try.func8, Try.ntmps8
      go_wp2_with (first
        | (go_at_call 20; refine (HT.out _).mono ?_; rintro e w' ⟨rfl, rfl⟩)
        | (go_at_call 11; refine (lives_any _).mono ?_; rintro e w9 ⟨rfl, hb9⟩))
      all_goals
        go_ret
        exact ⟨rfl, hb9⟩
    · have ha1 : (s.size : Int) < a := by omega
      clear hb
      go_enter Try.func8, Try.ntmps8
      go_wp2_with (first
        | (go_at_call 20; refine (HT.out _).mono ?_; rintro e w' ⟨rfl, rfl⟩)
        | (go_at_call 11; refine (lives_any _).mono ?_; rintro e w9 ⟨rfl, hb9⟩))
      all_goals
        go_ret
        exact ⟨rfl, hb9⟩
/-- The walk over what the four calls return. -/
theorem shifts_core (s d x : ByteArray) (a : Nat) (hs : s.size ≤ 300) (ha : a ≤ s.size) (v n n' e m m' f : Int) (w : World)
    (hsl : ∀ W, (Instr.slice 9 (.string s) (some (.int .i64 (a : Int))) none none).run Try.prog W = .ok (.string d) W)
    (h1 : ∀ w, Calls Try.prog 20 #[.string s, .int .i64 a] w fun r w' => r = .returned (.tuple #[.int .u64 v, .int .i64 n, .int .i64 e]) ∧ w = w')
    (h2 : ∀ w, Calls Try.prog 20 #[.string d, .int .i64 0] w fun r w' => r = .returned (.tuple #[.int .u64 v, .int .i64 n', .int .i64 e]) ∧ w = w')
    (h3 : ∀ w, Calls Try.prog 26 #[.string s, .int .i64 a, .int .i64 300] w fun r w' => r = .returned (.tuple #[.string x, .int .i64 m, .int .i64 f]) ∧ Below w.heap.size w w')
    (h4 : ∀ w, Calls Try.prog 26 #[.string d, .int .i64 0, .int .i64 300] w fun r w' => r = .returned (.tuple #[.string x, .int .i64 m', .int .i64 f]) ∧ Below w.heap.size w w')
    (he : ((e == 0) = true ∧ n = n' + a) ∨ ((e == 0) = false ∧ n = n')) (hf : ((f == 0) = true ∧ m = m' + a) ∨ ((f == 0) = false ∧ m = m'))
    (hn : 0 ≤ n ∧ n ≤ 300) (hm : 0 ≤ m ∧ m ≤ 300) :
    Calls Try.prog 8 #[.string s, .int .i64 a] w fun e w' => e = .returned (.bool true) ∧ Below w.heap.size w w' := by
  have H1 := Lib.hid h1
  have H2 := Lib.hid h2
  have H3 := Lib.hid h3
  have H4 := Lib.hid h4
  clear h1 h2 h3 h4
  have hneg : ¬ (a : Int) < 0 := by omega
  have hout : ¬ (s.size : Int) < a := by omega
  rcases he with ⟨he, rfl⟩ | ⟨he, rfl⟩ <;> rcases hf with ⟨hf, rfl⟩ | ⟨hf, rfl⟩
  all_goals
    go_enter Try.func8, Try.ntmps8
    go_wp2_with fail
    with_reducible refine (H1.out _).mono ?_
    rintro r w1 ⟨rfl, rfl⟩
    go_wp2_with fail
    with_reducible refine (H2.out _).mono ?_
    rintro r w1 ⟨rfl, rfl⟩
    go_wp2_with fail
    with_reducible refine (H3.out _).mono ?_
    rintro r w1 ⟨rfl, hb1⟩
    go_wp2_with fail
    with_reducible refine (H4.out _).mono ?_
    rintro r w2 ⟨rfl, hb2⟩
    go_wp2_with (go_at_call 11; refine (lives_any _).mono ?_; rintro e w9 ⟨rfl, hb9⟩)
    go_ret
    exact ⟨rfl, below_2 (below_2 hb1 hb2) hb9⟩
theorem tN_bd2 (l : List UInt8) (a : Int) : 0 ≤ tN l a ∧ tN l a ≤ l.length := by
  by_cases h : tE l a = 0
  · have := tN_bd h; omega
  · rw [(t_err h).2]; omega
theorem xN_bd2 (l : List UInt8) (a m : Int) : 0 ≤ xN l a m ∧ xN l a m ≤ l.length := by
  by_cases h : xE l a m = 0
  · have h1 := xE_zero h
    have h2 := tN_bd h1.1
    have h3 := tV_bd l a
    rw [(x_ok h).1]; omega
  · rw [(x_err h).1]; omega
theorem shifts_walk (s : ByteArray) (hs : s.size ≤ 9223372036854775807) (a : Int) (h0 : -9223372036854775808 ≤ a) (h1 : a ≤ 9223372036854775807) (w : World) :
    Calls Try.prog 8 #[.string s, .int .i64 a] w fun e w' => e = .returned (.bool true) ∧ Below w.heap.size w w' := by
  by_cases hl : 300 < s.size
  · exact shifts_out s hs a h0 h1 (Or.inl hl) w
  · cases ho : outside s.data.toList a
    · have hb := outside_false ho
      rw [← size_len] at hb
      obtain ⟨k, rfl⟩ := Int.eq_ofNat_of_zero_le hb.1
      have hk : k ≤ s.size := by omega
      have hd : (s.extract k s.size).data.toList = s.data.toList.drop k := Lib.extract_to_end s k
      have hz : (s.extract k s.size).size ≤ 300 := by rw [size_len, hd, List.length_drop, ← size_len]; omega
      have ht := shift_t (l := s.data.toList) (a := k) (by rw [← size_len]; exact hk)
      have hx := shift_x (l := s.data.toList) (a := k) (by rw [← size_len]; exact hk) 300
      have c1 := take_any s k h0 h1 hs
      have c2 := take_any (s.extract k s.size) 0 (by omega) (by omega) (by omega)
      have c3 := takeText_any s k 300 h0 h1 (by omega) (by omega) (by omega)
      have c4 := takeText_any (s.extract k s.size) 0 300 (by omega) (by omega) (by omega) (by omega) (by omega)
      rw [hd] at c2 c4
      rw [ht.1, ht.2.1] at c2
      rw [hx.1, hx.2.1] at c4
      have b1 := tN_bd2 s.data.toList k
      have b2 := xN_bd2 s.data.toList k 300
      rw [← size_len] at b1 b2
      refine shifts_core s _ _ k (by omega) hk _ _ _ _ _ _ _ w (slice_rest s k hk rfl) c1 c2 c3 c4 ?_ ?_ (by omega) (by omega)
      · by_cases he : tE s.data.toList k = 0
        · exact Or.inl ⟨by rw [he]; rfl, (ht.2.2 he).symm⟩
        · exact Or.inr ⟨beq_eq_false_iff_ne.2 he, by rw [(t_err he).2, (t_err (l := s.data.toList.drop k) (at_ := 0) (by rw [ht.2.1]; exact he)).2]⟩
      · by_cases he : xE s.data.toList k 300 = 0
        · exact Or.inl ⟨by rw [he]; rfl, (hx.2.2 he).symm⟩
        · exact Or.inr ⟨beq_eq_false_iff_ne.2 he, by rw [(x_err he).1, (x_err (l := s.data.toList.drop k) (at_ := 0) (most := 300) (by rw [hx.1]; exact he)).1]⟩
    · exact shifts_out s hs a h0 h1 (Or.inr ho) w
end Go.Proofs.Ytigimnccclaiiaa
