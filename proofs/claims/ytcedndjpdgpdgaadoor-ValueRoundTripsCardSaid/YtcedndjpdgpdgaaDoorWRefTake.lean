/-
  What the reference's TakeUint returns, for every text and every offset.
-/
import Derived.Test.YtcedndjpdgpdgaaDoorWTake
namespace Go.Proofs.YtcedndjpdgpdgaaDoor.W
open Go.RowKit

theorem rtake_out (s : ByteArray) (at_ : Int) (h0 : -9223372036854775808 ≤ at_) (h1 : at_ ≤ 9223372036854775807) (ho : outside s.data.toList at_ = true) (w : World) :
    Calls Tryd.prog 54 #[.string s, .int .i64 at_] w fun e w' => e = .returned (.tuple #[.int .u64 0, .int .i64 0, .int .i64 1]) ∧ w = w' := by
  have h := outside_true ho
  rw [← size_len] at h
  clear ho
  by_cases h2 : at_ < 0
  · clear h
    go_enter Tryd.func54, Tryd.ntmps54
    go_wp2
    go_ret3
    exact ⟨rfl, rfl⟩
  · have h3 : (s.size : Int) < at_ := by omega
    clear h
    go_enter Tryd.func54, Tryd.ntmps54
    go_wp2
    go_ret3
    exact ⟨rfl, rfl⟩
/-- A group of seven bits, added above what is there. -/
theorem add_group {acc i : Nat} (b : UInt8) (hi : i ≤ 9) (ha : acc < 128 ^ i) (h9 : i = 9 → b.toNat % 128 ≤ 1) {W : Int} (hW : W = ((128 ^ i : Nat) : Int)) :
    0 ≤ (b.toNat : Int) % 128 * W ∧ (b.toNat : Int) % 128 * W < 18446744073709551616 ∧ (acc : Int) + (b.toNat : Int) % 128 * W < 18446744073709551616 ∧
      (acc : Int) + (b.toNat : Int) % 128 * W = ((acc + b.toNat % 128 * 128 ^ i : Nat) : Int) := by
  have e : (b.toNat : Int) % 128 * W = ((b.toNat % 128 * 128 ^ i : Nat) : Int) := by
    rw [hW, Int.natCast_mul]; rfl
  rw [e]
  have hlt : acc + b.toNat % 128 * 128 ^ i < 18446744073709551616 := by
    by_cases h : i = 9
    · have h1 := h9 h
      subst h
      rw [pow_nine] at *
      omega
    · have h1 := next_lt ha (Nat.mod_lt b.toNat (by decide : 0 < 128))
      have h2 := pow_le (i := i) (by omega)
      omega
  omega
theorem weight_next {k : Nat} {W : Int} (hk : k ≤ 8) (hW : W = ((128 ^ k : Nat) : Int)) : W * 128 ≤ 9223372036854775808 ∧ W * 128 = ((128 ^ (k + 1) : Nat) : Int) := by
  have h := pow_le hk
  rw [pow_next] at h ⊢
  rw [hW]
  omega
set_option maxHeartbeats 1000000 in
set_option maxRecDepth 100000 in
theorem rtake_in (s : ByteArray) (a : Nat) (hs : s.size ≤ 1000000) (ha : a ≤ s.size) (w : World) :
    Calls Tryd.prog 54 #[.string s, .int .i64 a] w fun e w' => e = R a (du 0 0 (s.data.toList.drop a)) ∧ w = w' := by
  have hneg : decide ((a : Int) < 0) = false := by simp
  have hout : decide (s.size < a) = false := by simpa using ha
  go_enter Tryd.func54, Tryd.ntmps54
  go_wp2
  go_loop [7, 8, 9] (fun vv vw vk => ∃ (k acc : Nat) (W : Int), vk = .int .i64 k ∧ k ≤ 9 ∧ a + k ≤ s.size ∧ vv = .int .u64 acc ∧ vw = .int .u64 W ∧ 0 ≤ W ∧ W ≤ 9223372036854775808 ∧ Hid (W = ((128 ^ k : Nat) : Int)) ∧ Hid (acc < 128 ^ k ∧ du 0 0 (s.data.toList.drop a) = du k acc (s.data.toList.drop (a + k)))) (fun _ _ vk => (10 - (intOf vk).toNat))
  case atStart => exact ⟨0, 0, 1, rfl, by omega, by omega, rfl, rfl, by omega, by omega, rfl, by decide, rfl⟩
  case round =>
    obtain ⟨k, acc, W, rfl, h1, h2, rfl, rfl, hW0, hW1, HW, HH⟩ := hrel
    by_cases hlt : a + k < s.size
    · have hc := Lib.hid (drop_cons hlt)
      have hbb := s[a + k].toNat_lt
      cases h9 : ((k : Int) == 9)
      · have h9' : k ≤ 8 := by have := beq_eq_false_iff_ne.1 h9; omega
        cases hz : ((s[a + k].toNat : Int) == 0)
        · have hz' : 0 < s[a + k].toNat := by have := beq_eq_false_iff_ne.1 hz; omega
          by_cases hb : (s[a + k].toNat : Int) < 128
          · have HB : Hid (du 0 0 (s.data.toList.drop a) = (acc + s[a + k].toNat * 128 ^ k, k + 1, 0)) := HH.out.2.trans (hc.out ▸ du_last (by omega) (by omega))
            obtain ⟨o1, o2, o3, o4⟩ := add_group s[a + k] (i := k) (acc := acc) (by omega) HH.out.1 (by omega) HW.out
            have HO := Lib.hid o4
            clear o4
            go_wp2
            all_goals
              go_ret3
              exact ⟨R_ok HB.out (HO.out.trans (by rw [Nat.mod_eq_of_lt (by omega)])) (by omega), rfl⟩
          · have HB : Hid (du 0 0 (s.data.toList.drop a) = du (k + 1) (acc + s[a + k].toNat % 128 * 128 ^ k) (s.data.toList.drop (a + (k + 1)))) := HH.out.2.trans (hc.out ▸ du_more (by omega) (by omega))
            have HL := Lib.hid (next_lt HH.out.1 (Nat.mod_lt s[a + k].toNat (by decide : 0 < 128)))
            have hW2 := weight_next (by omega) HW.out
            have HW2 := Lib.hid hW2.2
            have hW3 := hW2.1
            clear hW2
            obtain ⟨o1, o2, o3, o4⟩ := add_group s[a + k] (i := k) (acc := acc) (by omega) HH.out.1 (by omega) HW.out
            have HO := Lib.hid o4
            clear o4
            go_wp2
            all_goals
              go_round
              case rel => exact ⟨k + 1, _, W * 128, by go_num, by omega, by omega, congrArg _ HO.out, rfl, by omega, by omega, HW2, HL.out, HB.out⟩
              case measure => simp [intOf]; omega
        · have hz' : s[a + k].toNat ≤ 0 := by have := beq_iff_eq.1 hz; omega
          by_cases h0 : 0 < (k : Int)
          · have HB : Hid (du 0 0 (s.data.toList.drop a) = (0, 0, 5)) := HH.out.2.trans (hc.out ▸ du_bad (by omega))
            go_wp2
            all_goals
              go_ret3
              exact ⟨R_bad HB.out, rfl⟩
          · have HB : Hid (du 0 0 (s.data.toList.drop a) = (acc + s[a + k].toNat * 128 ^ k, k + 1, 0)) := HH.out.2.trans (hc.out ▸ du_last (by omega) (by omega))
            obtain ⟨o1, o2, o3, o4⟩ := add_group s[a + k] (i := k) (acc := acc) (by omega) HH.out.1 (by omega) HW.out
            have HO := Lib.hid o4
            clear o4
            go_wp2
            all_goals
              go_ret3
              exact ⟨R_ok HB.out (HO.out.trans (by rw [Nat.mod_eq_of_lt (by omega)])) (by omega), rfl⟩
      · have h9' : 9 ≤ k := by have := beq_iff_eq.1 h9; omega
        by_cases hone : 1 < (s[a + k].toNat : Int)
        · have HB : Hid (du 0 0 (s.data.toList.drop a) = (0, 0, 5)) := HH.out.2.trans (hc.out ▸ du_bad (by omega))
          go_wp2
          all_goals
            go_ret3
            exact ⟨R_bad HB.out, rfl⟩
        · have h0 : 0 < (k : Int) := by omega
          cases hz : ((s[a + k].toNat : Int) == 0)
          · have hz' : 0 < s[a + k].toNat := by have := beq_eq_false_iff_ne.1 hz; omega
            have hb : (s[a + k].toNat : Int) < 128 := by omega
            have HB : Hid (du 0 0 (s.data.toList.drop a) = (acc + s[a + k].toNat * 128 ^ k, k + 1, 0)) := HH.out.2.trans (hc.out ▸ du_last (by omega) (by omega))
            obtain ⟨o1, o2, o3, o4⟩ := add_group s[a + k] (i := k) (acc := acc) (by omega) HH.out.1 (by omega) HW.out
            have HO := Lib.hid o4
            clear o4
            go_wp2
            all_goals
              go_ret3
              exact ⟨R_ok HB.out (HO.out.trans (by rw [Nat.mod_eq_of_lt (by omega)])) (by omega), rfl⟩
          · have hz' : s[a + k].toNat ≤ 0 := by have := beq_iff_eq.1 hz; omega
            have HB : Hid (du 0 0 (s.data.toList.drop a) = (0, 0, 5)) := HH.out.2.trans (hc.out ▸ du_bad (by omega))
            go_wp2
            all_goals
              go_ret3
              exact ⟨R_bad HB.out, rfl⟩
    · have HB : Hid (du 0 0 (s.data.toList.drop a) = (0, 0, 6)) := HH.out.2.trans (drop_end hlt ▸ rfl)
      go_wp2
      go_ret3
      exact ⟨R_cut HB.out, rfl⟩
end Go.Proofs.YtcedndjpdgpdgaaDoor.W
