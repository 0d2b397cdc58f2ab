/-
  What TakeUint returns, of the program and of the reference, for every text and every offset.
-/
import Derived.Test.YtcedndjpdgpdgaaDoorWSmall
import Derived.Lib.VarintBits
import Derived.Laws.Closers25b
namespace Go.Proofs.YtcedndjpdgpdgaaDoor.W
open Go.RowKit

theorem ret_3 {a b c a' b' c' : Int} (h1 : a = a') (h2 : b = b') (h3 : c = c') :
    Ending.returned (.tuple #[.int .u64 a, .int .i64 b, .int .i64 c]) = .returned (.tuple #[.int .u64 a', .int .i64 b', .int .i64 c']) := by rw [h1, h2, h3]
theorem take_out (s : ByteArray) (at_ : Int) (h0 : -9223372036854775808 ≤ at_) (h1 : at_ ≤ 9223372036854775807) (ho : outside s.data.toList at_ = true) (w : World) :
    Calls Tryd.prog 51 #[.string s, .int .i64 at_] w fun e w' => e = .returned (.tuple #[.int .u64 0, .int .i64 0, .int .i64 1]) ∧ w = w' := by
  have h := outside_true ho
  rw [← size_len] at h
  clear ho
  by_cases h2 : at_ < 0
  · clear h
    go_enter Tryd.func51, Tryd.ntmps51
    go_wp2
    go_ret3
    exact ⟨rfl, rfl⟩
  · have h3 : (s.size : Int) < at_ := by omega
    clear h
    go_enter Tryd.func51, Tryd.ntmps51
    go_wp2
    go_ret3
    exact ⟨rfl, rfl⟩
theorem two_seven (i : Nat) : (2 : Nat) ^ (7 * i) = 128 ^ i := by rw [Nat.pow_mul]
/-- A group of seven bits, put above what is there. -/
theorem or_group {acc i : Nat} (b : UInt8) (hi : i ≤ 9) (ha : acc < 128 ^ i) (h9 : i = 9 → b.toNat % 128 ≤ 1) :
    bits .or .u64 (acc : Int) (IntKind.u64.wrap (IntKind.u64.wrap (bits .and .u8 (b.toNat : Int) 127) * 2 ^ (7 * i))) = ((acc + b.toNat % 128 * 128 ^ i : Nat) : Int) := by
  have hb := b.toNat_lt
  have hac : acc < 9223372036854775808 := Nat.lt_of_lt_of_le ha (Nat.le_trans (Nat.pow_le_pow_right (by decide) hi) (Nat.le_of_eq pow_nine))
  have hlt : b.toNat % 128 * 128 ^ i < 18446744073709551616 := by
    by_cases h : i = 9
    · have h1 := h9 h
      subst h
      rw [pow_nine]
      omega
    · have h1 := pow_le (i := i) (by omega)
      rw [pow_next] at h1
      have h2 : b.toNat % 128 * 128 ^ i ≤ 128 * 128 ^ i := Nat.mul_le_mul_right _ (by omega)
      omega
  have hm : (2 : Int) ^ (7 * i) = ((128 ^ i : Nat) : Int) := by rw [← two_seven]; simp
  have h1 : IntKind.u64.wrap (bits .and .u8 (b.toNat : Int) 127) = ((b.toNat % 128 : Nat) : Int) := by
    rw [u8_and127 _ (by omega) (by omega), u64_wrap_id _ (by omega) (by omega)]
    omega
  have h2 : ((b.toNat % 128 : Nat) : Int) * ((128 ^ i : Nat) : Int) = ((b.toNat % 128 * 128 ^ i : Nat) : Int) := by rw [Int.natCast_mul]
  rw [h1, hm, h2, u64_wrap_id _ (by omega) (by omega)]
  have h3 := bits_join_low .u64 64 (by decide) wraps_u64 (7 * i) (acc : Int) ((b.toNat % 128 * 128 ^ i : Nat) : Int) (by omega) (by rw [hm]; omega) (by omega) (by omega) (by rw [hm, ← h2]; simp) (by rw [show ((2 : Int) ^ 64) = 18446744073709551616 by decide]; omega)
  rw [h3, Int.natCast_add]
theorem list_get {s : ByteArray} {k : Nat} (h : k < s.size) : s.data.toList[k]'(by rw [← size_len]; exact h) = s[k] := rfl
theorem drop_cons {s : ByteArray} {k : Nat} (h : k < s.size) : s.data.toList.drop k = s[k] :: s.data.toList.drop (k + 1) := by
  rw [List.drop_eq_getElem_cons (by rw [← size_len]; exact h), list_get h]
theorem drop_end {s : ByteArray} {k : Nat} (h : ¬ k < s.size) : s.data.toList.drop k = [] := by
  rw [List.drop_of_length_le (by rw [← size_len]; omega)]
/-- what TakeUint gives for the bytes from an offset on -/
def R (a : Nat) (d : Nat × Nat × Nat) : Ending := .returned (.tuple #[.int .u64 (d.1 : Int), .int .i64 (if d.2.2 = 0 then (a : Int) + (d.2.1 : Int) else 0), .int .i64 (d.2.2 : Int)])
theorem R_bad {a : Nat} {d : Nat × Nat × Nat} (h : d = (0, 0, 5)) : Ending.returned (.tuple #[.int .u64 0, .int .i64 0, .int .i64 5]) = R a d := by subst h; rfl
theorem R_cut {a : Nat} {d : Nat × Nat × Nat} (h : d = (0, 0, 6)) : Ending.returned (.tuple #[.int .u64 0, .int .i64 0, .int .i64 6]) = R a d := by subst h; rfl
theorem R_ok {a v c : Nat} {d : Nat × Nat × Nat} (h : d = (v, c, 0)) {x y : Int} (hx : x = v) (hy : y = (a : Int) + c) : Ending.returned (.tuple #[.int .u64 x, .int .i64 y, .int .i64 0]) = R a d := by
  subst h hx hy; rfl
set_option maxHeartbeats 1000000 in
set_option maxRecDepth 100000 in
theorem take_in (s : ByteArray) (a : Nat) (hs : s.size ≤ 9223372036854775807) (ha : a ≤ s.size) (w : World) :
    Calls Tryd.prog 51 #[.string s, .int .i64 a] w fun e w' => e = R a (du 0 0 (s.data.toList.drop a)) ∧ w = w' := by
  have hneg : decide ((a : Int) < 0) = false := by simp
  have hout : decide (s.size < a) = false := by simpa using ha
  go_enter Tryd.func51, Tryd.ntmps51
  go_wp2
  go_loop [7, 8] (fun vv vn => ∃ p acc : Nat, vn = .int .i64 p ∧ a ≤ p ∧ p ≤ a + 9 ∧ p ≤ s.size ∧ vv = .int .u64 acc ∧ Hid (acc < 128 ^ (p - a) ∧ du 0 0 (s.data.toList.drop a) = du (p - a) acc (s.data.toList.drop p))) (fun _ vn => (s.size + 1 - (intOf vn).toNat))
  case atStart => exact ⟨a, 0, rfl, by omega, by omega, by omega, rfl, by rw [Nat.sub_self]; exact ⟨by decide, rfl⟩⟩
  case round =>
    obtain ⟨p, acc, rfl, h1, h2, h3, rfl, HH⟩ := hrel
    by_cases hlt : p < s.size
    · have hc := Lib.hid (drop_cons hlt)
      have hbb := s[p].toNat_lt
      cases h9 : ((p : Int) - a == 9)
      · have h9' : p ≤ a + 8 := by have := beq_eq_false_iff_ne.1 h9; omega
        cases hz : ((s[p].toNat : Int) == 0)
        · have hz' : 0 < s[p].toNat := by have := beq_eq_false_iff_ne.1 hz; omega
          have HO := Lib.hid (or_group s[p] (i := p - a) (acc := acc) (by omega) HH.out.1 (by omega))
          by_cases hb : (s[p].toNat : Int) < 128
          · have HB : Hid (du 0 0 (s.data.toList.drop a) = (acc + s[p].toNat * 128 ^ (p - a), p - a + 1, 0)) := HH.out.2.trans (hc.out ▸ du_last (by omega) (by omega))
            go_wp2
            all_goals
              go_ret3
              exact ⟨R_ok HB.out (HO.out.trans (by rw [Nat.mod_eq_of_lt (by omega)])) (by omega), rfl⟩
          · have HB : Hid (du 0 0 (s.data.toList.drop a) = du (p - a + 1) (acc + s[p].toNat % 128 * 128 ^ (p - a)) (s.data.toList.drop (p + 1))) := HH.out.2.trans (hc.out ▸ du_more (by omega) (by omega))
            have HL := Lib.hid (next_lt HH.out.1 (Nat.mod_lt s[p].toNat (by decide : 0 < 128)))
            go_wp2
            all_goals
              go_round
              case rel => exact ⟨p + 1, _, by go_num, by omega, by omega, by omega, congrArg _ HO.out, by rw [show p + 1 - a = p - a + 1 by omega]; exact ⟨HL.out, HB.out⟩⟩
              case measure => simp [intOf]; omega
        · have hz' : s[p].toNat ≤ 0 := by have := beq_iff_eq.1 hz; omega
          by_cases h0 : a < p
          · have HB : Hid (du 0 0 (s.data.toList.drop a) = (0, 0, 5)) := HH.out.2.trans (hc.out ▸ du_bad (by omega))
            go_wp2
            all_goals
              go_ret3
              exact ⟨R_bad HB.out, rfl⟩
          · have HO := Lib.hid (or_group s[p] (i := p - a) (acc := acc) (by omega) HH.out.1 (by omega))
            have HB : Hid (du 0 0 (s.data.toList.drop a) = (acc + s[p].toNat * 128 ^ (p - a), p - a + 1, 0)) := HH.out.2.trans (hc.out ▸ du_last (by omega) (by omega))
            go_wp2
            all_goals
              go_ret3
              exact ⟨R_ok HB.out (HO.out.trans (by rw [Nat.mod_eq_of_lt (by omega)])) (by omega), rfl⟩
      · have h9' : a + 9 ≤ p := by have := beq_iff_eq.1 h9; omega
        by_cases hone : 1 < (s[p].toNat : Int)
        · have HB : Hid (du 0 0 (s.data.toList.drop a) = (0, 0, 5)) := HH.out.2.trans (hc.out ▸ du_bad (by omega))
          go_wp2
          all_goals
            go_ret3
            exact ⟨R_bad HB.out, rfl⟩
        · have h0 : a < p := by omega
          cases hz : ((s[p].toNat : Int) == 0)
          · have hz' : 0 < s[p].toNat := by have := beq_eq_false_iff_ne.1 hz; omega
            have hb : (s[p].toNat : Int) < 128 := by omega
            have HO := Lib.hid (or_group s[p] (i := p - a) (acc := acc) (by omega) HH.out.1 (by omega))
            have HB : Hid (du 0 0 (s.data.toList.drop a) = (acc + s[p].toNat * 128 ^ (p - a), p - a + 1, 0)) := HH.out.2.trans (hc.out ▸ du_last (by omega) (by omega))
            go_wp2
            all_goals
              go_ret3
              exact ⟨R_ok HB.out (HO.out.trans (by rw [Nat.mod_eq_of_lt (by omega)])) (by omega), rfl⟩
          · have hz' : s[p].toNat ≤ 0 := by have := beq_iff_eq.1 hz; omega
            have HB : Hid (du 0 0 (s.data.toList.drop a) = (0, 0, 5)) := HH.out.2.trans (hc.out ▸ du_bad (by omega))
            go_wp2
            all_goals
              go_ret3
              exact ⟨R_bad HB.out, rfl⟩
    · have HB : Hid (du 0 0 (s.data.toList.drop a) = (0, 0, 6)) := HH.out.2.trans (drop_end hlt ▸ rfl)
      go_wp2
      go_ret3
      exact ⟨R_cut HB.out, rfl⟩
end Go.Proofs.YtcedndjpdgpdgaaDoor.W
