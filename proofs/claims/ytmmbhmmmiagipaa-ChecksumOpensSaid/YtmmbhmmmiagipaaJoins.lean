/-
  The law on joined strings, walked.
-/
import Derived.Test.YtmmbhmmmiagipaaLives
namespace Go.Proofs.Ytmmbhmmmiagipaa
open Go.RowKit

set_option maxRecDepth 100000 in
theorem joins_core (a b : ByteArray) (ha : a.size ≤ 200000000000000) (hb : b.size ≤ 200000000000000) (h x1 x2 f1 f2 c z1 z2 k1 k2 : Nat) (hc : (h : Int) % 4294967296 = (c : Int)) (w : World)
    (e1 : ∀ w, Calls Try.prog 14 #[.int .u64 h, .string (a ++ b)] w fun e w' => e = .returned (.int .u64 (x2 : Int)) ∧ w = w')
    (e2 : ∀ w, Calls Try.prog 14 #[.int .u64 h, .string a] w fun e w' => e = .returned (.int .u64 (x1 : Int)) ∧ w = w')
    (e3 : ∀ w, Calls Try.prog 14 #[.int .u64 x1, .string b] w fun e w' => e = .returned (.int .u64 (x2 : Int)) ∧ w = w')
    (u1 : ∀ w, Calls Try.prog 21 #[.int .u32 c, .string (a ++ b)] w fun e w' => e = .returned (.int .u32 (z2 : Int)) ∧ w = w')
    (u2 : ∀ w, Calls Try.prog 21 #[.int .u32 c, .string a] w fun e w' => e = .returned (.int .u32 (z1 : Int)) ∧ w = w')
    (u3 : ∀ w, Calls Try.prog 21 #[.int .u32 z1, .string b] w fun e w' => e = .returned (.int .u32 (z2 : Int)) ∧ w = w')
    (n1 : ∀ w, Calls Try.prog 14 #[.int .u64 h, .string ⟨#[]⟩] w fun e w' => e = .returned (.int .u64 (h : Int)) ∧ w = w')
    (n2 : ∀ w, Calls Try.prog 21 #[.int .u32 c, .string ⟨#[]⟩] w fun e w' => e = .returned (.int .u32 (c : Int)) ∧ w = w')
    (g1 : ∀ w, Calls Try.prog 12 #[.string (a ++ b)] w fun e w' => e = .returned (.int .u64 (f2 : Int)) ∧ w = w')
    (g2 : ∀ w, Calls Try.prog 12 #[.string a] w fun e w' => e = .returned (.int .u64 (f1 : Int)) ∧ w = w')
    (g3 : ∀ w, Calls Try.prog 14 #[.int .u64 f1, .string b] w fun e w' => e = .returned (.int .u64 (f2 : Int)) ∧ w = w')
    (d1 : ∀ w, Calls Try.prog 19 #[.string (a ++ b)] w fun e w' => e = .returned (.int .u32 (k2 : Int)) ∧ w = w')
    (d2 : ∀ w, Calls Try.prog 19 #[.string a] w fun e w' => e = .returned (.int .u32 (k1 : Int)) ∧ w = w')
    (d3 : ∀ w, Calls Try.prog 21 #[.int .u32 k1, .string b] w fun e w' => e = .returned (.int .u32 (k2 : Int)) ∧ w = w') :
    Calls Try.prog 7 #[.string a, .string b, .int .u64 h] w fun e w' => e = .returned (.bool true) ∧ Below w.heap.size w w' := by
  have E1 := Lib.hid e1
  have E2 := Lib.hid e2
  have E3 := Lib.hid e3
  have U1 := Lib.hid u1
  have U2 := Lib.hid u2
  have U3 := Lib.hid u3
  have N1 := Lib.hid n1
  have N2 := Lib.hid n2
  have G1 := Lib.hid g1
  have G2 := Lib.hid g2
  have G3 := Lib.hid g3
  have D1 := Lib.hid d1
  have D2 := Lib.hid d2
  have D3 := Lib.hid d3
  clear e1 e2 e3 u1 u2 u3 n1 n2 g1 g2 g3 d1 d2 d3
  go_enter Try.func7, Try.ntmps7
  go_wp2_with fail
  refine (E1.out _).mono ?_; rintro e w' ⟨rfl, rfl⟩
  go_wp2_with fail
  refine (E2.out _).mono ?_; rintro e w' ⟨rfl, rfl⟩
  go_wp2_with fail
  refine (E3.out _).mono ?_; rintro e w' ⟨rfl, rfl⟩
  go_wp2_with fail
  refine (U1.out _).mono ?_; rintro e w' ⟨rfl, rfl⟩
  go_wp2_with fail
  refine (U2.out _).mono ?_; rintro e w' ⟨rfl, rfl⟩
  go_wp2_with fail
  refine (U3.out _).mono ?_; rintro e w' ⟨rfl, rfl⟩
  go_wp2_with fail
  refine (N1.out _).mono ?_; rintro e w' ⟨rfl, rfl⟩
  go_wp2_with fail
  refine (N2.out _).mono ?_; rintro e w' ⟨rfl, rfl⟩
  go_wp2_with fail
  refine (G1.out _).mono ?_; rintro e w' ⟨rfl, rfl⟩
  go_wp2_with fail
  refine (G2.out _).mono ?_; rintro e w' ⟨rfl, rfl⟩
  go_wp2_with fail
  refine (G3.out _).mono ?_; rintro e w' ⟨rfl, rfl⟩
  go_wp2_with fail
  refine (D1.out _).mono ?_; rintro e w' ⟨rfl, rfl⟩
  go_wp2_with fail
  refine (D2.out _).mono ?_; rintro e w' ⟨rfl, rfl⟩
  go_wp2_with fail
  refine (D3.out _).mono ?_; rintro e w' ⟨rfl, rfl⟩
  go_wp2_with (go_at_call 11; refine (lives_any _).mono ?_; rintro e w9 ⟨rfl, hb9⟩)
  go_ret
  exact ⟨rfl, hb9⟩
theorem join_size (a b : ByteArray) : (a ++ b).size = a.size + b.size := by rw [size_len, append_list, List.length_append, ← size_len, ← size_len]
theorem joins_walk (a b : ByteArray) (ha : a.size ≤ 200000000000000) (hb : b.size ≤ 200000000000000) (h : Nat) (hh : h < 18446744073709551616) (w : World) :
    Calls Try.prog 7 #[.string a, .string b, .int .u64 h] w fun e w' => e = .returned (.bool true) ∧ Below w.heap.size w w' := by
  have hj : (a ++ b).size ≤ 9223372036854775807 := by rw [join_size]; omega
  have ha' : a.size ≤ 9223372036854775807 := by omega
  have hb' : b.size ≤ 9223372036854775807 := by omega
  have hc : h % 4294967296 < 4294967296 := Nat.mod_lt _ (by decide)
  have q1 : ext h (a ++ b).data.toList = ext (ext h a.data.toList) b.data.toList := by rw [append_list, ext_append]
  have q2 : upd (h % 4294967296) (a ++ b).data.toList = upd (upd (h % 4294967296) a.data.toList) b.data.toList := by rw [append_list, upd_append]
  have q3 : fnv (a ++ b).data.toList = ext (fnv a.data.toList) b.data.toList := by rw [append_list]; exact ext_append _ _ _
  have q4 : crc (a ++ b).data.toList = upd (crc a.data.toList) b.data.toList := by rw [append_list]; exact upd_append _ _ _
  have q5 : upd (h % 4294967296) [] = h % 4294967296 := by
    show h % 4294967296 ^^^ 4294967295 ^^^ 4294967295 = _
    rw [Nat.xor_assoc, Nat.xor_self, Nat.xor_zero]
  refine joins_core a b ha hb h (ext h a.data.toList) (ext h (a ++ b).data.toList) (fnv a.data.toList) (fnv (a ++ b).data.toList) (h % 4294967296)
    (upd (h % 4294967296) a.data.toList) (upd (h % 4294967296) (a ++ b).data.toList) (crc a.data.toList) (crc (a ++ b).data.toList) (by omega) w
    (ext_any h hh _ hj) (ext_any h hh _ ha') ?_ (upd_any _ hc _ hj) (upd_any _ hc _ ha') ?_ ?_ ?_ (fnv_any _ hj) (fnv_any _ ha') ?_ (crc_any _ hj) (crc_any _ ha') ?_
  · rw [q1]; exact ext_any _ (ext_lt hh _) _ hb'
  · rw [q2]; exact upd_any _ (upd_lt hc _) _ hb'
  · exact ext_any h hh ⟨#[]⟩ (by decide)
  · have hn := upd_any (h % 4294967296) hc ⟨#[]⟩ (by decide)
    rw [show (ByteArray.mk #[]).data.toList = [] from rfl, q5] at hn
    exact hn
  · rw [q3]; exact ext_any _ (fnv_lt _) _ hb'
  · rw [q4]; exact upd_any _ (crc_lt _) _ hb'
end Go.Proofs.Ytmmbhmmmiagipaa
