/-
  What the hashes and the checksums return, of the program and of the reference: contracts, one a function.
-/
import Derived.Test.YtmmbhmmmiagipaaPlain
import Derived.Test.YtmmbhmmmiagipaaProg
import Derived.WalkKit
import Derived.LoopTactic
import Derived.Lib.Walk
import Derived.Lib.Strings
import Derived.Lib.IndexBytes
import Derived.Lib.Hide
import Derived.Laws.BitsAllLaws
namespace Go.Proofs.Ytmmbhmmmiagipaa
open Go.RowKit

theorem ret_int {k : IntKind} {a b : Int} (h : a = b) : Ending.returned (.int k a) = .returned (.int k b) := by rw [h]
theorem ret_string {a b : ByteArray} (h : a = b) : Ending.returned (.string a) = Ending.returned (.string b) := by rw [h]
theorem size_len (s : ByteArray) : s.size = s.data.toList.length := by simp
theorem take_snoc (s : ByteArray) (k : Nat) (h : k < s.size) : s.data.toList.take (k + 1) = s.data.toList.take k ++ [s[k]] := by
  rw [List.take_succ_eq_append_getElem (by simpa using h)]; rfl
theorem take_all (s : ByteArray) : s.data.toList.take s.size = s.data.toList := List.take_of_length_le (by simp)
theorem u64_byte (c : UInt8) : IntKind.u64.wrap (c.toNat : Int) = (c.toNat : Int) := by
  have hc := byte_lt c
  exact IntWalk.u64_in _ (by omega)
theorem u32_byte (c : UInt8) : IntKind.u32.wrap (c.toNat : Int) = (c.toNat : Int) := by
  have hc := byte_lt c
  exact IntWalk.u32_in _ (by omega)
theorem wrap_nat64 (x : Nat) : IntKind.u64.wrap (x : Int) = ((x % 18446744073709551616 : Nat) : Int) := by
  rw [show IntKind.u64.wrap (x : Int) = (x : Int) % 18446744073709551616 from by simp [IntKind.wrap, IntKind.bits, IntKind.signed]]
  omega
/-- One round's number, in the walk's own spelling: behind names. -/
theorem hash_round {a : Nat} (ha : a < 18446744073709551616) (c : UInt8) :
    ∃ x y : Nat, bits .xor .u64 (a : Int) (c.toNat : Int) = (x : Int) ∧ IntKind.u64.wrap ((x : Int) * 1099511628211) = (y : Int) ∧ y < 18446744073709551616 ∧ Hid (y = fnvStep a c) := by
  have hc := byte_lt c
  refine ⟨a ^^^ c.toNat, fnvStep a c, u64_xor_nat a c.toNat ha (by omega), ?_, fnvStep_lt a c, rfl⟩
  have h := wrap_nat64 ((a ^^^ c.toNat) * 1099511628211)
  rw [Int.natCast_mul] at h
  exact h
set_option maxRecDepth 100000 in
theorem ext_any (h : Nat) (hh : h < 18446744073709551616) (s : ByteArray) (hs : s.size ≤ 9223372036854775807) (w : World) :
    Calls Try.prog 14 #[.int .u64 h, .string s] w fun e w' => e = .returned (.int .u64 (ext h s.data.toList : Nat)) ∧ w = w' := by
  go_enter Try.func14, Try.ntmps14
  go_wp2
  go_loop [0, 8] (fun vh vi => ∃ k g : Nat, k ≤ s.size ∧ vi = .int .i64 k ∧ vh = .int .u64 g ∧ g < 18446744073709551616 ∧ Hid (g = ext h (s.data.toList.take k))) (fun _ vi => s.size - (intOf vi).toNat)
  case atStart => exact ⟨0, h, Nat.zero_le _, rfl, rfl, hh, rfl⟩
  case round =>
    obtain ⟨k, g, hk, rfl, rfl, hg, HG⟩ := hrel
    by_cases hlt : k < s.size
    · obtain ⟨x, y, hx, hm, hy, HY⟩ := hash_round hg s[k]
      have hb := u64_byte s[k]
      have HN : Hid (y = ext h (s.data.toList.take (k + 1))) := by
        show _ = _
        rw [HY.out, HG.out, take_snoc s k hlt, ext_snoc]
      clear HY
      go_wp2
      go_round
      case rel => exact ⟨k + 1, y, by omega, by go_num, rfl, hy, HN⟩
      case measure => simp [intOf]; omega
    · obtain rfl : s.size = k := by omega
      go_wp2
      go_ret
      exact ⟨ret_int (by rw [HG.out, take_all]), rfl⟩
set_option maxRecDepth 100000 in
theorem rext_any (h : Nat) (hh : h < 18446744073709551616) (s : ByteArray) (hs : s.size ≤ 9223372036854775807) (w : World) :
    Calls Try.prog 15 #[.int .u64 h, .string s] w fun e w' => e = .returned (.int .u64 (ext h s.data.toList : Nat)) ∧ w = w' := by
  go_enter Try.func15, Try.ntmps15
  go_wp2
  go_loop [0, 5] (fun vh vi => ∃ k g : Nat, k ≤ s.size ∧ vi = .int .i64 k ∧ vh = .int .u64 g ∧ g < 18446744073709551616 ∧ Hid (g = ext h (s.data.toList.take k))) (fun _ vi => s.size - (intOf vi).toNat)
  case atStart => exact ⟨0, h, Nat.zero_le _, rfl, rfl, hh, rfl⟩
  case round =>
    obtain ⟨k, g, hk, rfl, rfl, hg, HG⟩ := hrel
    by_cases hlt : k < s.size
    · obtain ⟨x, y, hx, hm, hy, HY⟩ := hash_round hg s[k]
      have hb := u64_byte s[k]
      have HN : Hid (y = ext h (s.data.toList.take (k + 1))) := by
        show _ = _
        rw [HY.out, HG.out, take_snoc s k hlt, ext_snoc]
      clear HY
      go_wp2
      go_round
      case rel => exact ⟨k + 1, y, by omega, by go_num, rfl, hy, HN⟩
      case measure => simp [intOf]; omega
    · obtain rfl : s.size = k := by omega
      go_wp2
      go_ret
      exact ⟨ret_int (by rw [HG.out, take_all]), rfl⟩

def basis : Nat := 14695981039346656037
theorem basis_lt : basis < 18446744073709551616 := by decide
def fnv (l : List UInt8) : Nat := ext basis l
theorem fnv_lt (l : List UInt8) : fnv l < 18446744073709551616 := ext_lt basis_lt l
theorem ext_basis (s : ByteArray) (hs : s.size ≤ 9223372036854775807) (w : World) :
    Calls Try.prog 14 #[.int .u64 14695981039346656037, .string s] w fun e w' => e = .returned (.int .u64 (fnv s.data.toList : Nat)) ∧ w = w' := ext_any basis basis_lt s hs w
theorem rext_basis (s : ByteArray) (hs : s.size ≤ 9223372036854775807) (w : World) :
    Calls Try.prog 15 #[.int .u64 14695981039346656037, .string s] w fun e w' => e = .returned (.int .u64 (fnv s.data.toList : Nat)) ∧ w = w' := rext_any basis basis_lt s hs w
theorem fnv_any (s : ByteArray) (hs : s.size ≤ 9223372036854775807) (w : World) :
    Calls Try.prog 12 #[.string s] w fun e w' => e = .returned (.int .u64 (fnv s.data.toList : Nat)) ∧ w = w' := by
  go_enter Try.func12, Try.ntmps12
  go_wp2_with (go_at_call 14; refine (ext_basis _ hs _).mono ?_; rintro e w' ⟨rfl, rfl⟩)
  go_ret
  exact ⟨rfl, rfl⟩
theorem rfnv_any (s : ByteArray) (hs : s.size ≤ 9223372036854775807) (w : World) :
    Calls Try.prog 13 #[.string s] w fun e w' => e = .returned (.int .u64 (fnv s.data.toList : Nat)) ∧ w = w' := by
  go_enter Try.func13, Try.ntmps13
  go_wp2_with (go_at_call 15; refine (rext_basis _ hs _).mono ?_; rintro e w' ⟨rfl, rfl⟩)
  go_ret
  exact ⟨rfl, rfl⟩
end Go.Proofs.Ytmmbhmmmiagipaa
