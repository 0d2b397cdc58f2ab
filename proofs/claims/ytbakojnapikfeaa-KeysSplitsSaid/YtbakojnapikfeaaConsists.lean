/-
  What consists returns for a closure that leaves the world as it is: contracts, one a closure.
-/
import Derived.Test.YtbakojnapikfeaaBytes
namespace Go.Proofs.Ytbakojnapikfeaa
open Go.RowKit

set_option maxRecDepth 100000 in
theorem consists_38 (ok : UInt8 → Bool) (s : ByteArray) (hs : s.size ≤ 9223372036854775807) {w : World} {p q : Addr}
    (hc : ∀ c : UInt8, Calls Try.prog 38 #[.int .u8 (c.toNat : Int), .pointer (some p), .pointer (some q)] w fun e w' => e = .returned (.bool (ok c)) ∧ w' = w) :
    Calls Try.prog 32 #[.string s, .func (Fn.func 38) #[] #[.pointer (some p), .pointer (some q)]] w fun e w' => e = .returned (.bool (all24 ok s)) ∧ w' = w := by
  have HC := Lib.hid hc
  clear hc
  by_cases h24 : s.size ≤ 24
  · have HL := Lib.hid (all24_good (ok := ok) h24)
    go_enter Try.func32, Try.ntmps32
    go_wp2
    go_loop [11] (fun vi => ∃ k : Nat, k ≤ s.size ∧ vi = .int .i64 k ∧ Hid (upto ok s k)) (fun vi => s.size - (intOf vi).toNat)
    case atStart => exact ⟨0, Nat.zero_le _, rfl, rfl⟩
    case round =>
      obtain ⟨k, hk, rfl, HU⟩ := hrel
      by_cases hlt : k < s.size
      · have HX := Lib.hid (HC.out s[k])
        by_cases hok : ok s[k] = true
        · have HN := Lib.hid (upto_next HU.out hlt hok)
          rw [hok] at HX
          clear hok
          go_wp2_with fail
          refine HX.out.mono ?_; rintro e w' ⟨rfl, rfl⟩
          go_wp2_with fail
          go_round
          case rel => exact ⟨k + 1, by omega, by go_num, HN⟩
          case measure => simp [intOf]; omega
        · rw [Bool.not_eq_true] at hok
          have HB := Lib.hid (all24_bad hlt hok)
          rw [hok] at HX
          clear hok
          go_wp2_with fail
          refine HX.out.mono ?_; rintro e w' ⟨rfl, rfl⟩
          go_wp2_with fail
          go_ret
          exact ⟨ret_bool HB.out.symm, rfl⟩
      · obtain rfl : s.size = k := by omega
        have HG := Lib.hid (HL.out HU.out)
        go_wp2_with fail
        go_ret
        exact ⟨ret_bool HG.out.symm, rfl⟩
  · have HB := Lib.hid (all24_long (ok := ok) h24)
    go_enter Try.func32, Try.ntmps32
    go_wp2
    go_ret
    exact ⟨ret_bool HB.out.symm, rfl⟩
set_option maxRecDepth 100000 in
theorem consists_33 (ok : UInt8 → Bool) (s : ByteArray) (hs : s.size ≤ 9223372036854775807) {w : World} {p q : Addr}
    (hc : ∀ c : UInt8, Calls Try.prog 33 #[.int .u8 (c.toNat : Int), .pointer (some p), .pointer (some q)] w fun e w' => e = .returned (.bool (ok c)) ∧ w' = w) :
    Calls Try.prog 32 #[.string s, .func (Fn.func 33) #[] #[.pointer (some p), .pointer (some q)]] w fun e w' => e = .returned (.bool (all24 ok s)) ∧ w' = w := by
  have HC := Lib.hid hc
  clear hc
  by_cases h24 : s.size ≤ 24
  · have HL := Lib.hid (all24_good (ok := ok) h24)
    go_enter Try.func32, Try.ntmps32
    go_wp2
    go_loop [11] (fun vi => ∃ k : Nat, k ≤ s.size ∧ vi = .int .i64 k ∧ Hid (upto ok s k)) (fun vi => s.size - (intOf vi).toNat)
    case atStart => exact ⟨0, Nat.zero_le _, rfl, rfl⟩
    case round =>
      obtain ⟨k, hk, rfl, HU⟩ := hrel
      by_cases hlt : k < s.size
      · have HX := Lib.hid (HC.out s[k])
        by_cases hok : ok s[k] = true
        · have HN := Lib.hid (upto_next HU.out hlt hok)
          rw [hok] at HX
          clear hok
          go_wp2_with fail
          refine HX.out.mono ?_; rintro e w' ⟨rfl, rfl⟩
          go_wp2_with fail
          go_round
          case rel => exact ⟨k + 1, by omega, by go_num, HN⟩
          case measure => simp [intOf]; omega
        · rw [Bool.not_eq_true] at hok
          have HB := Lib.hid (all24_bad hlt hok)
          rw [hok] at HX
          clear hok
          go_wp2_with fail
          refine HX.out.mono ?_; rintro e w' ⟨rfl, rfl⟩
          go_wp2_with fail
          go_ret
          exact ⟨ret_bool HB.out.symm, rfl⟩
      · obtain rfl : s.size = k := by omega
        have HG := Lib.hid (HL.out HU.out)
        go_wp2_with fail
        go_ret
        exact ⟨ret_bool HG.out.symm, rfl⟩
  · have HB := Lib.hid (all24_long (ok := ok) h24)
    go_enter Try.func32, Try.ntmps32
    go_wp2
    go_ret
    exact ⟨ret_bool HB.out.symm, rfl⟩
end Go.Proofs.Ytbakojnapikfeaa
