/-
  What the checksums return, of the program and of the reference: contracts, one a function.
-/
import Derived.Test.YtmmbhmmmiagipaaSums
namespace Go.Proofs.Ytmmbhmmmiagipaa
open Go.RowKit

theorem not_any {a : Nat} (ha : a < 4294967296) : ∃ b : Nat, bits .xor .u32 IntKind.u32.max (a : Int) = (b : Int) ∧ b < 4294967296 ∧ Hid (b = a ^^^ 4294967295) := by
  refine ⟨a ^^^ 4294967295, ?_, xor_lt32 ha (by decide), rfl⟩
  rw [show IntKind.u32.max = ((4294967295 : Nat) : Int) from rfl, u32_xor_nat 4294967295 a (by decide) ha, Nat.xor_comm]
theorem ones_any {a : Nat} (ha : a < 4294967296) : ∃ b : Nat, bits .xor .u32 (a : Int) 4294967295 = (b : Int) ∧ b < 4294967296 ∧ Hid (b = a ^^^ 4294967295) :=
  ⟨a ^^^ 4294967295, u32_xor_nat a 4294967295 ha (by decide), xor_lt32 ha (by decide), rfl⟩
theorem sum_byte {a : Nat} (ha : a < 4294967296) (c : UInt8) : ∃ b : Nat, bits .xor .u32 (a : Int) (c.toNat : Int) = (b : Int) ∧ b < 4294967296 ∧ Hid (b = a ^^^ c.toNat) := by
  have hc := byte_lt c
  exact ⟨a ^^^ c.toNat, u32_xor_nat a c.toNat ha (by omega), xor_lt32 ha (by omega), rfl⟩
theorem and_one (y : Nat) (hy : y < 4294967296) : bits .and .u32 (y : Int) 1 = ((y % 2 : Nat) : Int) := by
  have h := u32_and_nat y 1 hy (by decide)
  rw [nat_mask1] at h
  exact h
theorem odd_round {y : Nat} (hy : y < 4294967296) (h : y % 2 = 1) :
    ∃ z : Nat, bits .and .u32 (y : Int) 1 = 1 ∧ bits .xor .u32 ((y : Int) / 2) 2197175160 = (z : Int) ∧ z < 4294967296 ∧ Hid (z = shift1 y) := by
  refine ⟨shift1 y, by rw [and_one y hy, h]; rfl, ?_, shift1_lt hy, rfl⟩
  rw [shift1_odd h]
  exact u32_xor_nat (y / 2) 2197175160 (by omega) (by decide)
theorem even_round {y : Nat} (hy : y < 4294967296) (h : ¬ y % 2 = 1) :
    ∃ z : Nat, bits .and .u32 (y : Int) 1 = 0 ∧ (y : Int) / 2 = (z : Int) ∧ z < 4294967296 ∧ Hid (z = shift1 y) := by
  refine ⟨shift1 y, by rw [and_one y hy]; omega, ?_, shift1_lt hy, rfl⟩
  rw [shift1_even h]
  rfl
set_option maxRecDepth 100000 in
theorem upd_any (c0 : Nat) (h0 : c0 < 4294967296) (s : ByteArray) (hs : s.size ≤ 9223372036854775807) (w : World) :
    Calls Try.prog 21 #[.int .u32 c0, .string s] w fun e w' => e = .returned (.int .u32 (upd c0 s.data.toList : Nat)) ∧ w = w' := by
  obtain ⟨c1, hc1, hc2, HC⟩ := not_any h0
  go_enter Try.func21, Try.ntmps21
  go_wp2
  go_loop [5, 12] (fun vc vi => ∃ k g : Nat, k ≤ s.size ∧ vi = .int .i64 k ∧ vc = .int .u32 g ∧ g < 4294967296 ∧ Hid (g = crcFold (c0 ^^^ 4294967295) (s.data.toList.take k))) (fun _ vi => s.size - (intOf vi).toNat)
  case atStart => exact ⟨0, c1, Nat.zero_le _, rfl, rfl, hc2, HC⟩
  case round =>
    obtain ⟨k, g, hk, rfl, rfl, hg, HG⟩ := hrel
    clear hc1 hc2 HC
    by_cases hlt : k < s.size
    · have hcb := byte_lt s[k]
      obtain ⟨c, hc, hc2, HC⟩ := sum_byte hg s[k]
      have HN : Hid (crcFold (c0 ^^^ 4294967295) (s.data.toList.take (k + 1)) = shifts 8 c) := by
        show _ = _
        rw [HC.out, take_snoc s k hlt, crcFold_snoc, HG.out]
        rfl
      clear HC
      go_wp2
      clear hc
      go_loop [5, 21] (fun vc vj => ∃ j y : Nat, j ≤ 8 ∧ vj = .int .i64 j ∧ vc = .int .u32 y ∧ y < 4294967296 ∧ Hid (y = shifts j c)) (fun _ vj => 8 - (intOf vj).toNat)
      case atStart => exact ⟨0, c, by omega, rfl, rfl, hc2, rfl⟩
      case round =>
        obtain ⟨j, y, hj, rfl, rfl, hy, HY⟩ := hrel
        by_cases hj8 : j < 8
        · by_cases hodd : y % 2 = 1
          · obtain ⟨z, hz1, hz2, hz3, HZ⟩ := odd_round hy hodd
            have HS : Hid (z = shifts (j + 1) c) := by show _ = _; rw [HZ.out, HY.out]; rfl
            clear hodd HZ
            go_wp2
            go_round
            case rel => exact ⟨j + 1, z, by omega, by go_num, rfl, hz3, HS⟩
            case measure => simp [intOf]; omega
          · obtain ⟨z, hz1, hz2, hz3, HZ⟩ := even_round hy hodd
            have HS : Hid (z = shifts (j + 1) c) := by show _ = _; rw [HZ.out, HY.out]; rfl
            clear hodd HZ
            go_wp2
            go_round
            case rel => exact ⟨j + 1, z, by omega, by go_num, rfl, hz3, HS⟩
            case measure => simp [intOf]; omega
        · obtain rfl : j = 8 := by omega
          go_wp2
          go_round
          case rel => exact ⟨k + 1, y, by omega, by go_num, rfl, hy, by show _ = _; rw [HN.out, HY.out]⟩
          case measure => simp [intOf]; omega
    · obtain rfl : s.size = k := by omega
      obtain ⟨b, hb1, hb2, HB⟩ := not_any hg
      go_wp2
      go_ret
      exact ⟨ret_int (by rw [HB.out, HG.out, take_all]; rfl), rfl⟩
set_option maxRecDepth 100000 in
theorem rupd_any (c0 : Nat) (h0 : c0 < 4294967296) (s : ByteArray) (hs : s.size ≤ 9223372036854775807) (w : World) :
    Calls Try.prog 22 #[.int .u32 c0, .string s] w fun e w' => e = .returned (.int .u32 (upd c0 s.data.toList : Nat)) ∧ w = w' := by
  obtain ⟨c1, hc1, hc2, HC⟩ := ones_any h0
  go_enter Try.func22, Try.ntmps22
  go_wp2
  go_loop [5, 6] (fun vc vi => ∃ k g : Nat, k ≤ s.size ∧ vi = .int .i64 k ∧ vc = .int .u32 g ∧ g < 4294967296 ∧ Hid (g = crcFold (c0 ^^^ 4294967295) (s.data.toList.take k))) (fun _ vi => s.size - (intOf vi).toNat)
  case atStart => exact ⟨0, c1, Nat.zero_le _, rfl, rfl, hc2, HC⟩
  case round =>
    obtain ⟨k, g, hk, rfl, rfl, hg, HG⟩ := hrel
    clear hc1 hc2 HC
    by_cases hlt : k < s.size
    · have hcb := byte_lt s[k]
      obtain ⟨c, hc, hc2, HC⟩ := sum_byte hg s[k]
      have HN : Hid (crcFold (c0 ^^^ 4294967295) (s.data.toList.take (k + 1)) = shifts 8 c) := by
        show _ = _
        rw [HC.out, take_snoc s k hlt, crcFold_snoc, HG.out]
        rfl
      clear HC
      go_wp2
      clear hc
      go_loop [5, 7] (fun vc vj => ∃ j y : Nat, j ≤ 8 ∧ vj = .int .i64 j ∧ vc = .int .u32 y ∧ y < 4294967296 ∧ Hid (y = shifts j c)) (fun _ vj => 8 - (intOf vj).toNat)
      case atStart => exact ⟨0, c, by omega, rfl, rfl, hc2, rfl⟩
      case round =>
        obtain ⟨j, y, hj, rfl, rfl, hy, HY⟩ := hrel
        by_cases hj8 : j < 8
        · by_cases hodd : y % 2 = 1
          · obtain ⟨z, hz1, hz2, hz3, HZ⟩ := odd_round hy hodd
            have hm : ((y : Int) % 2 == 1) = true := beq_iff_eq.2 (by omega)
            have HS : Hid (z = shifts (j + 1) c) := by show _ = _; rw [HZ.out, HY.out]; rfl
            clear hodd HZ hz1
            go_wp2
            go_round
            case rel => exact ⟨j + 1, z, by omega, by go_num, rfl, hz3, HS⟩
            case measure => simp [intOf]; omega
          · obtain ⟨z, hz1, hz2, hz3, HZ⟩ := even_round hy hodd
            have hm : ((y : Int) % 2 == 1) = false := beq_eq_false_iff_ne.2 (by omega)
            have HS : Hid (z = shifts (j + 1) c) := by show _ = _; rw [HZ.out, HY.out]; rfl
            clear hodd HZ hz1
            go_wp2
            go_round
            case rel => exact ⟨j + 1, z, by omega, by go_num, rfl, hz3, HS⟩
            case measure => simp [intOf]; omega
        · obtain rfl : j = 8 := by omega
          go_wp2
          go_round
          case rel => exact ⟨k + 1, y, by omega, by go_num, rfl, hy, by show _ = _; rw [HN.out, HY.out]⟩
          case measure => simp [intOf]; omega
    · obtain rfl : s.size = k := by omega
      obtain ⟨b, hb1, hb2, HB⟩ := ones_any hg
      go_wp2
      go_ret
      exact ⟨ret_int (by rw [HB.out, HG.out, take_all]; rfl), rfl⟩

def crc (l : List UInt8) : Nat := upd 0 l
theorem crc_lt (l : List UInt8) : crc l < 4294967296 := upd_lt (by decide) l
theorem upd_zero (s : ByteArray) (hs : s.size ≤ 9223372036854775807) (w : World) :
    Calls Try.prog 21 #[.int .u32 0, .string s] w fun e w' => e = .returned (.int .u32 (crc s.data.toList : Nat)) ∧ w = w' := upd_any 0 (by decide) s hs w
theorem rupd_zero (s : ByteArray) (hs : s.size ≤ 9223372036854775807) (w : World) :
    Calls Try.prog 22 #[.int .u32 0, .string s] w fun e w' => e = .returned (.int .u32 (crc s.data.toList : Nat)) ∧ w = w' := rupd_any 0 (by decide) s hs w
theorem crc_any (s : ByteArray) (hs : s.size ≤ 9223372036854775807) (w : World) :
    Calls Try.prog 19 #[.string s] w fun e w' => e = .returned (.int .u32 (crc s.data.toList : Nat)) ∧ w = w' := by
  go_enter Try.func19, Try.ntmps19
  go_wp2_with (go_at_call 21; refine (upd_zero _ hs _).mono ?_; rintro e w' ⟨rfl, rfl⟩)
  go_ret
  exact ⟨rfl, rfl⟩
theorem rcrc_any (s : ByteArray) (hs : s.size ≤ 9223372036854775807) (w : World) :
    Calls Try.prog 20 #[.string s] w fun e w' => e = .returned (.int .u32 (crc s.data.toList : Nat)) ∧ w = w' := by
  go_enter Try.func20, Try.ntmps20
  go_wp2_with (go_at_call 22; refine (rupd_zero _ hs _).mono ?_; rintro e w' ⟨rfl, rfl⟩)
  go_ret
  exact ⟨rfl, rfl⟩
end Go.Proofs.Ytmmbhmmmiagipaa
