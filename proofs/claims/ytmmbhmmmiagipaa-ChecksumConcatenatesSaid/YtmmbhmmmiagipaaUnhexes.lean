/-
  What Unhex returns, of the program and of the reference: contracts; that it undoes Hex and accepts nothing else.
-/
import Derived.Test.YtmmbhmmmiagipaaHexes
namespace Go.Proofs.Ytmmbhmmmiagipaa
open Go.RowKit

/-- the value of a digit, or -1 -/
def dv (c : UInt8) : Int := Lib.indexByte [48, 49, 50, 51, 52, 53, 54, 55, 56, 57, 97, 98, 99, 100, 101, 102] c
theorem dv_all : ∀ n : Fin 256, (dv n.val.toUInt8 = -1 ∧ ∀ j : Fin 16, dig j.val ≠ n.val.toUInt8) ∨ (0 ≤ dv n.val.toUInt8 ∧ dv n.val.toUInt8 < 16 ∧ dig (dv n.val.toUInt8).toNat = n.val.toUInt8) := by decide +kernel
theorem dv_cases (c : UInt8) : (dv c = -1 ∧ ∀ j, j < 16 → dig j ≠ c) ∨ ∃ d : Nat, dv c = d ∧ d < 16 ∧ dig d = c := by
  have h := dv_all ⟨c.toNat, byte_lt c⟩
  have e : c.toNat.toUInt8 = c := by simp
  simp only [e] at h
  rcases h with ⟨h1, h2⟩ | ⟨h1, h2, h3⟩
  · exact Or.inl ⟨h1, fun j hj => h2 ⟨j, hj⟩⟩
  · exact Or.inr ⟨(dv c).toNat, by omega, by omega, h3⟩
theorem dv_digs : ∀ d : Fin 16, dv (dig d.val) = (d.val : Int) := by decide +kernel
theorem dv_dig {d : Nat} (h : d < 16) : dv (dig d) = (d : Int) := dv_digs ⟨d, h⟩
/-- one digit more -/
def ustep (o : Option Nat) (c : UInt8) : Option Nat := o.bind fun g => if dv c < 0 then none else some (g * 16 + (dv c).toNat)
def uh (l : List UInt8) : Option Nat := l.foldl ustep (some 0)
theorem uh_none (l : List UInt8) : l.foldl ustep none = none := by
  induction l with
  | nil => rfl
  | cons c l ih => exact ih
theorem uh_snoc (a : List UInt8) (c : UInt8) : uh (a ++ [c]) = ustep (uh a) c := by unfold uh; rw [List.foldl_append, List.foldl_cons, List.foldl_nil]
theorem uh_dead {a : List UInt8} (b : List UInt8) (h : uh a = none) : uh (a ++ b) = none := by
  unfold uh at *; rw [List.foldl_append, h, uh_none]
theorem ustep_bad {o : Option Nat} {c : UInt8} (h : dv c < 0) : ustep o c = none := by
  cases o with
  | none => rfl
  | some g => simp only [ustep, Option.bind_some, if_pos h]
theorem ustep_good {g d : Nat} {c : UInt8} (h : dv c = (d : Int)) : ustep (some g) c = some (g * 16 + d) := by
  simp only [ustep, Option.bind_some, h]
  rw [if_neg (by omega), Int.toNat_natCast]
/-- Unhex undoes Hex. -/
theorem uh_hex : ∀ n h, uh (hexN n h) = some (h % 16 ^ n)
  | 0, h => by rw [Nat.pow_zero, Nat.mod_one]; rfl
  | n + 1, h => by
    rw [hexN, uh_snoc, uh_hex n, ustep_good (dv_dig (Nat.mod_lt _ (by decide)))]
    have e : h % 16 ^ (n + 1) = (h / 16 % 16 ^ n) * 16 + h % 16 := by
      rw [Nat.pow_succ, Nat.mul_comm (16 ^ n) 16, Nat.mod_mul]
      omega
    rw [e]
/-- What Unhex accepts is what Hex makes. -/
theorem hex_uh : ∀ (n : Nat) (l : List UInt8) (v : Nat), l.length = n → uh l = some v → hexN n v = l ∧ v < 16 ^ n
  | 0, l, v, hl, h => by
    have e := List.eq_nil_of_length_eq_zero hl
    subst e
    have : (0 : Nat) = v := by simpa [uh] using h
    subst this
    exact ⟨rfl, by decide⟩
  | n + 1, l, v, hl, h => by
    rcases List.eq_nil_or_concat l with rfl | ⟨a, c, rfl⟩
    · simp at hl
    · rw [List.concat_eq_append] at *
      have ha : a.length = n := by simpa using hl
      rw [uh_snoc] at h
      rcases dv_cases c with ⟨h1, _⟩ | ⟨d, h1, h2, h3⟩
      · rw [ustep_bad (by omega)] at h; simp at h
      · cases hg : uh a with
        | none => rw [hg] at h; simp [ustep] at h
        | some g =>
          rw [hg, ustep_good h1] at h
          have hv : g * 16 + d = v := by simpa using h
          obtain ⟨ih1, ih2⟩ := hex_uh n a g ha hg
          subst hv
          rw [hexN, show (g * 16 + d) / 16 = g by omega, show (g * 16 + d) % 16 = d by omega, ih1, h3, Nat.pow_succ]
          exact ⟨rfl, by omega⟩
theorem pow_le {k : Nat} (h : k < 16) : (16 : Nat) ^ k ≤ 1152921504606846976 :=
  Nat.le_trans (Nat.pow_le_pow_right (by decide) (show k ≤ 15 by omega)) (by decide)
theorem or_join {g d : Nat} (hg : g < 1152921504606846976) (hd : d < 16) : bits .or .u64 ((g : Int) * 16) (d : Int) = ((g * 16 + d : Nat) : Int) := by
  have h := u64_or_nat (g * 16) d (by omega) (by omega)
  rw [nat_join 4 (g * 16) d (by omega) (by omega)] at h
  exact h

/-- the error of Unhex -/
def uE (s : ByteArray) : Int := if s.size = 16 then (if (uh s.data.toList).isSome then 0 else 5) else 5
/-- the number of Unhex -/
def uV (s : ByteArray) : Nat := if s.size = 16 then (uh s.data.toList).getD 0 else 0
theorem u_short {s : ByteArray} (h : ¬ s.size = 16) : uE s = 5 ∧ uV s = 0 := by unfold uE uV; rw [if_neg h, if_neg h]; exact ⟨rfl, rfl⟩
theorem u_bad {s : ByteArray} {k : Nat} (hk : k < s.size) (hd : dv s[k] < 0) : uE s = 5 ∧ uV s = 0 := by
  have hn : uh s.data.toList = none := by
    rw [← List.take_append_drop (k + 1) s.data.toList]
    refine uh_dead _ ?_
    rw [take_snoc s k hk, uh_snoc, ustep_bad hd]
  unfold uE uV
  rw [hn]
  by_cases h : s.size = 16
  · rw [if_pos h, if_pos h]; exact ⟨rfl, rfl⟩
  · rw [if_neg h, if_neg h]; exact ⟨rfl, rfl⟩
theorem u_good {s : ByteArray} {g : Nat} (h : s.size = 16) (hg : uh (s.data.toList.take 16) = some g) : uE s = 0 ∧ uV s = g := by
  rw [← h, take_all] at hg
  unfold uE uV
  rw [if_pos h, if_pos h, hg]
  exact ⟨rfl, rfl⟩
theorem uh_next {s : ByteArray} {k g d : Nat} (hk : k < s.size) (hg : uh (s.data.toList.take k) = some g) (hd : dv s[k] = (d : Int)) : uh (s.data.toList.take (k + 1)) = some (g * 16 + d) := by
  rw [take_snoc s k hk, uh_snoc, hg, ustep_good hd]
theorem ret_pair {a b : Nat} {x y : Int} (h : a = b) (h2 : x = y) : Ending.returned (.tuple #[.int .u64 (a : Int), .int .i64 x]) = .returned (.tuple #[.int .u64 (b : Int), .int .i64 y]) := by rw [h, h2]
theorem index_digit (c : UInt8) (w : World) :
    Calls Try.prog 32 #[.string ⟨#[48, 49, 50, 51, 52, 53, 54, 55, 56, 57, 97, 98, 99, 100, 101, 102]⟩, .int .u8 (c.toNat : Int)] w fun e w' => e = .returned (.int .i64 (dv c)) ∧ w = w' := by
  refine (Try.strings_IndexByte _ _ w).mono ?_
  rintro e w' ⟨rfl, rfl⟩
  refine ⟨ret_int ?_, rfl⟩
  rw [Int.toNat_natCast, show c.toNat.toUInt8 = c from by simp]
  rfl
set_option maxRecDepth 100000 in
theorem unhex_any (s : ByteArray) (hs : s.size ≤ 9223372036854775807) (w : World) :
    Calls Try.prog 24 #[.string s] w fun e w' => e = .returned (.tuple #[.int .u64 (uV s : Nat), .int .i64 (uE s)]) ∧ w = w' := by
  by_cases h16 : s.size = 16
  · have hb : ((s.size : Int) != 16) = false := by rw [h16]; rfl
    have hz : (s.size : Int) ≤ 16 := by omega
    have HZ := Lib.hid h16
    clear h16
    go_enter Try.func24, Try.ntmps24
    go_wp2
    clear hb
    go_loop [4, 12] (fun vh vi => ∃ k g : Nat, k ≤ s.size ∧ vi = .int .i64 k ∧ vh = .int .u64 g ∧ g < 16 ^ k ∧ Hid (uh (s.data.toList.take k) = some g)) (fun _ vi => s.size - (intOf vi).toNat)
    case atStart => exact ⟨0, 0, Nat.zero_le _, rfl, rfl, by decide, rfl⟩
    case round =>
      obtain ⟨k, g, hk, rfl, rfl, hg, HG⟩ := hrel
      by_cases hlt : k < s.size
      · have HX := Lib.hid (index_digit s[k])
        have hg60 : g < 1152921504606846976 := Nat.lt_of_lt_of_le hg (pow_le (by omega))
        rcases dv_cases s[k] with ⟨h1, _⟩ | ⟨d, h1, h2, _⟩
        · have HB := Lib.hid (u_bad hlt (by omega))
          rw [h1] at HX
          clear h1 hg
          go_wp2_with (go_at_call 32; refine (HX.out _).mono ?_; rintro e w' ⟨rfl, rfl⟩)
          go_ret2
          exact ⟨ret_pair HB.out.2.symm HB.out.1.symm, rfl⟩
        · have HN := Lib.hid (uh_next hlt HG.out h1)
          have hor := or_join hg60 h2
          have hnew : g * 16 + d < 16 ^ (k + 1) := by rw [Nat.pow_succ]; omega
          rw [h1] at HX
          clear h1 hg
          go_wp2_with (go_at_call 32; refine (HX.out _).mono ?_; rintro e w' ⟨rfl, rfl⟩)
          go_round
          case rel => exact ⟨k + 1, g * 16 + d, by omega, by go_num, by go_num, hnew, HN⟩
          case measure => simp [intOf]; omega
      · obtain rfl : s.size = k := by omega
        have HB := Lib.hid (u_good (g := g) HZ.out (by have := HG.out; rw [HZ.out] at this; exact this))
        clear hg
        go_wp2
        go_ret2
        exact ⟨ret_pair HB.out.2.symm HB.out.1.symm, rfl⟩
  · have hb : ((s.size : Int) != 16) = true := bne_iff_ne.2 (by omega)
    have HB := Lib.hid (u_short h16)
    clear h16
    go_enter Try.func24, Try.ntmps24
    go_wp2
    go_ret2
    exact ⟨ret_pair HB.out.2.symm HB.out.1.symm, rfl⟩

/-! ### the reference -/

theorem byte_beq {b c : UInt8} (h : b ≠ c) : ((b.toNat : Int) == (c.toNat : Int)) = false := by
  refine beq_eq_false_iff_ne.2 fun e => h (UInt8.toNat_inj.1 ?_)
  omega
set_option maxRecDepth 100000 in
theorem rdigit_any (c : UInt8) (w : World) :
    Calls Try.prog 33 #[.int .u8 (c.toNat : Int)] w fun e w' => e = .returned (.int .i64 (dv c)) ∧ w = w' := by
  go_enter Try.func33, Try.ntmps33
  go_wp2
  go_loop [3] (fun vi => ∃ k : Nat, k ≤ 16 ∧ vi = .int .i64 k ∧ Hid (∀ j, j < k → dig j ≠ c)) (fun vi => 16 - (intOf vi).toNat)
  case atStart => exact ⟨0, Nat.zero_le _, rfl, fun j h => absurd h (Nat.not_lt_zero j)⟩
  case round =>
    obtain ⟨k, hk, rfl, HN⟩ := hrel
    by_cases hlt : k < 16
    · have hrun := digit_run k hlt
      by_cases he : dig k = c
      · have HV : Hid (dv c = (k : Int)) := by show _ = _; rw [← he]; exact dv_dig hlt
        rw [he] at hrun
        clear he
        go_wp2
        go_ret
        exact ⟨ret_int HV.out.symm, rfl⟩
      · have hb := byte_beq he
        have HN2 : Hid (∀ j, j < k + 1 → dig j ≠ c) := by
          intro j hj
          by_cases hjk : j = k
          · rw [hjk]; exact he
          · exact HN.out j (by omega)
        clear he
        go_wp2
        go_round
        case rel => exact ⟨k + 1, by omega, by go_num, HN2⟩
        case measure => simp [intOf]; omega
    · obtain rfl : k = 16 := by omega
      have HV : Hid (dv c = -1) := by
        rcases dv_cases c with ⟨h1, _⟩ | ⟨d, _, h2, h3⟩
        · exact h1
        · exact absurd h3 (HN.out d h2)
      go_wp2
      go_ret
      exact ⟨ret_int HV.out.symm, rfl⟩
set_option maxRecDepth 100000 in
theorem runhex_any (s : ByteArray) (hs : s.size ≤ 9223372036854775807) (w : World) :
    Calls Try.prog 26 #[.string s] w fun e w' => e = .returned (.tuple #[.int .u64 (uV s : Nat), .int .i64 (uE s)]) ∧ w = w' := by
  by_cases h16 : s.size = 16
  · have hb : ((s.size : Int) != 16) = false := by rw [h16]; rfl
    have hz : (s.size : Int) ≤ 16 := by omega
    have hz2 : 16 ≤ s.size := by omega
    have HZ := Lib.hid h16
    clear h16
    go_enter Try.func26, Try.ntmps26
    go_wp2
    clear hb
    go_loop [4, 5] (fun vh vi => ∃ k g : Nat, k ≤ 16 ∧ vi = .int .i64 k ∧ vh = .int .u64 g ∧ g < 16 ^ k ∧ Hid (uh (s.data.toList.take k) = some g)) (fun _ vi => 16 - (intOf vi).toNat)
    case atStart => exact ⟨0, 0, Nat.zero_le _, rfl, rfl, by decide, rfl⟩
    case round =>
      obtain ⟨k, g, hk, rfl, rfl, hg, HG⟩ := hrel
      by_cases hlt16 : k < 16
      · have hlt : k < s.size := by omega
        have HX := Lib.hid (rdigit_any s[k])
        have hg60 : g < 1152921504606846976 := Nat.lt_of_lt_of_le hg (pow_le (by omega))
        rcases dv_cases s[k] with ⟨h1, _⟩ | ⟨d, h1, h2, _⟩
        · have HB := Lib.hid (u_bad hlt (by omega))
          rw [h1] at HX
          clear h1 hg
          go_wp2_with (go_at_call 33; refine (HX.out _).mono ?_; rintro e w' ⟨rfl, rfl⟩)
          go_ret2
          exact ⟨ret_pair HB.out.2.symm HB.out.1.symm, rfl⟩
        · have HN := Lib.hid (uh_next hlt HG.out h1)
          have hnew : g * 16 + d < 16 ^ (k + 1) := by rw [Nat.pow_succ]; omega
          rw [h1] at HX
          clear h1 hg
          go_wp2_with (go_at_call 33; refine (HX.out _).mono ?_; rintro e w' ⟨rfl, rfl⟩)
          go_round
          case rel => exact ⟨k + 1, g * 16 + d, by omega, by go_num, by go_num, hnew, HN⟩
          case measure => simp [intOf]; omega
      · obtain rfl : k = 16 := by omega
        have HB := Lib.hid (u_good (g := g) HZ.out HG.out)
        clear hg
        go_wp2
        go_ret2
        exact ⟨ret_pair HB.out.2.symm HB.out.1.symm, rfl⟩
  · have hb : ((s.size : Int) != 16) = true := bne_iff_ne.2 (by omega)
    have HB := Lib.hid (u_short h16)
    clear h16
    go_enter Try.func26, Try.ntmps26
    go_wp2
    go_ret2
    exact ⟨ret_pair HB.out.2.symm HB.out.1.symm, rfl⟩

/-! ### the round trip -/

theorem hex_size (h : Nat) : (hex h).size = 16 := by rw [size_len, hex_list, hexN_length]
theorem back_E (h : Nat) : uE (hex h) = 0 := by
  unfold uE
  rw [if_pos (hex_size h), hex_list, uh_hex]
  rfl
theorem back_V {h : Nat} (hh : h < 18446744073709551616) : uV (hex h) = h := by
  unfold uV
  rw [if_pos (hex_size h), hex_list, uh_hex, show (16 : Nat) ^ 16 = 18446744073709551616 by decide, Nat.mod_eq_of_lt hh]
  rfl
theorem uE_cases (s : ByteArray) : (uE s = 0 ∧ hex (uV s) = s ∧ uV s < 18446744073709551616) ∨ (uE s = 5 ∧ uV s = 0) := by
  by_cases h : s.size = 16
  · cases hu : uh s.data.toList with
    | none =>
      right
      unfold uE uV
      rw [if_pos h, if_pos h, hu]
      exact ⟨rfl, rfl⟩
    | some v =>
      left
      have hv := hex_uh 16 s.data.toList v (by rw [← size_len]; exact h) hu
      have e0 : uE s = 0 := by unfold uE; rw [if_pos h, hu]; rfl
      have e1 : uV s = v := by unfold uV; rw [if_pos h, hu]; rfl
      rw [e0, e1]
      refine ⟨rfl, WideShapes.bytes_inj (by rw [hex_list]; exact hv.1), ?_⟩
      have := hv.2
      rw [show (16 : Nat) ^ 16 = 18446744073709551616 by decide] at this
      exact this
  · exact Or.inr (u_short h)
end Go.Proofs.Ytmmbhmmmiagipaa
