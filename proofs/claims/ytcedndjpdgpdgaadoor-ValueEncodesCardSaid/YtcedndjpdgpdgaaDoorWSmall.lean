/-
  What the small encoders return, of the program and of the reference: zigzag numbers, integers, truth values, texts.
-/
import Derived.Test.YtcedndjpdgpdgaaDoorWEnc
namespace Go.Proofs.YtcedndjpdgpdgaaDoor.W
open Go.RowKit
open Go.Lib (uvarint zigzag unzigzag byteCells)

theorem ret_int {k : IntKind} {a b : Int} (h : a = b) : Ending.returned (.int k a) = .returned (.int k b) := by rw [h]
set_option maxRecDepth 100000 in
theorem zigzag_any (n : Int) (h0 : -9223372036854775808 ≤ n) (h1 : n ≤ 9223372036854775807) (w : World) :
    Calls Tryd.prog 72 #[.int .i64 n] w fun e w' => e = .returned (.int .u64 (zigzag n : Nat)) ∧ w = w' := by
  by_cases hn : n < 0
  · have hz := Lib.zigzag_neg h0 hn
    generalize hZ : ((zigzag n : Nat) : Int) = z at hz
    clear hZ
    go_enter Tryd.func72, Tryd.ntmps72
    go_wp2
    go_ret
    exact ⟨rfl, rfl⟩
  · have hz := Lib.zigzag_nonneg (x := n) (by omega)
    rw [hz]
    clear hz
    go_enter Tryd.func72, Tryd.ntmps72
    go_wp2
    go_ret
    exact ⟨ret_int (by omega), rfl⟩
set_option maxRecDepth 100000 in
theorem fold_any (n : Int) (h0 : -9223372036854775808 ≤ n) (h1 : n ≤ 9223372036854775807) (w : World) :
    Calls Tryd.prog 73 #[.int .i64 n] w fun e w' => e = .returned (.int .u64 (zigzag n : Nat)) ∧ w = w' := by
  have HZ : Hid (((zigzag n : Nat) : Int) = if 0 ≤ n then 2 * n else -2 * n - 1) := by
    show _ = _
    unfold zigzag
    split <;> omega
  by_cases hn : n < 0
  · go_enter Tryd.func73, Tryd.ntmps73
    go_wp2
    go_ret
    exact ⟨ret_int (by have := HZ.out; rw [if_neg (by omega)] at this; omega), rfl⟩
  · go_enter Tryd.func73, Tryd.ntmps73
    go_wp2
    go_ret
    exact ⟨ret_int (by have := HZ.out; rw [if_pos (by omega)] at this; omega), rfl⟩
theorem unz_int {u : Nat} : unzigzag u = if u % 2 = 0 then (u : Int) / 2 else -((u : Int) / 2) - 1 := by
  unfold unzigzag
  split <;> omega
set_option maxRecDepth 100000 in
theorem unzigzag_any (u : Nat) (hu : u < 18446744073709551616) (w : World) :
    Calls Tryd.prog 83 #[.int .u64 u] w fun e w' => e = .returned (.int .i64 (unzigzag u)) ∧ w = w' := by
  have hand := Lib.u64_and1 (u : Int) (by omega) (by omega)
  by_cases hodd : u % 2 = 0
  · have hand0 : bits .and .u64 (u : Int) 1 = 0 := by rw [hand]; omega
    rw [unz_int, if_pos hodd]
    clear hand
    go_enter Tryd.func83, Tryd.ntmps83
    go_wp2
    go_ret
    exact ⟨rfl, rfl⟩
  · have hand1 : bits .and .u64 (u : Int) 1 = 1 := by rw [hand]; omega
    have hnot : bits .xor .i64 (-1) ((u : Int) / 2) = -((u : Int) / 2) - 1 := by
      have h3 := Lib.i64_not (u / 2) (by omega)
      rw [show (((u / 2 : Nat) : Int)) = (u : Int) / 2 by omega] at h3
      exact h3
    rw [unz_int, if_neg hodd]
    clear hand
    go_enter Tryd.func83, Tryd.ntmps83
    go_wp2
    go_ret
    exact ⟨rfl, rfl⟩
set_option maxRecDepth 100000 in
theorem unfold_any (u : Nat) (hu : u < 18446744073709551616) (w : World) :
    Calls Tryd.prog 76 #[.int .u64 u] w fun e w' => e = .returned (.int .i64 (unzigzag u)) ∧ w = w' := by
  by_cases hodd : u % 2 = 0
  · have hm : ((u : Int) % 2 == 1) = false := beq_eq_false_iff_ne.2 (by omega)
    rw [unz_int, if_pos hodd]
    go_enter Tryd.func76, Tryd.ntmps76
    go_wp2
    go_ret
    exact ⟨rfl, rfl⟩
  · have hm : ((u : Int) % 2 == 1) = true := beq_iff_eq.2 (by omega)
    rw [unz_int, if_neg hodd]
    go_enter Tryd.func76, Tryd.ntmps76
    go_wp2
    go_ret
    exact ⟨rfl, rfl⟩

/-- the encoding of an integer -/
def intText (n : Int) : List UInt8 := uvarint (zigzag n)
theorem int_any (n : Int) (h0 : -9223372036854775808 ≤ n) (h1 : n ≤ 9223372036854775807) (w : World) :
    Calls Tryd.prog 46 #[.int .i64 n] w fun e w' => e = .returned (.string ⟨(intText n).toArray⟩) ∧ Below w.heap.size w w' := by
  have hu := uint_any (zigzag n) (Lib.zigzag_lt h0 h1)
  go_enter Tryd.func46, Tryd.ntmps46
  go_wp2_with (first | (go_at_call 72; refine (zigzag_any _ h0 h1 _).mono ?_; rintro e w' ⟨rfl, rfl⟩) | (go_at_call 45; refine (hu _).mono ?_; rintro e w' ⟨rfl, hb⟩))
  go_ret
  exact ⟨rfl, hb⟩
theorem rint_any (n : Int) (h0 : -9223372036854775808 ≤ n) (h1 : n ≤ 9223372036854775807) (w : World) :
    Calls Tryd.prog 49 #[.int .i64 n] w fun e w' => e = .returned (.string ⟨(intText n).toArray⟩) ∧ Below w.heap.size w w' := by
  have hu := ruint_any (zigzag n) (Lib.zigzag_lt h0 h1)
  go_enter Tryd.func49, Tryd.ntmps49
  go_wp2_with (first | (go_at_call 73; refine (fold_any _ h0 h1 _).mono ?_; rintro e w' ⟨rfl, rfl⟩) | (go_at_call 48; refine (hu _).mono ?_; rintro e w' ⟨rfl, hb⟩))
  go_ret
  exact ⟨rfl, hb⟩
/-- the encoding of a truth value -/
def boolText (b : Bool) : List UInt8 := if b then [1] else [0]
theorem text_eq (s : ByteArray) : ByteArray.mk (uvarint s.size).toArray ++ s = ⟨(text s.data.toList).toArray⟩ := by
  refine WideShapes.bytes_inj ?_
  rw [append_list, text, ← size_len]
theorem uv_size {x : Nat} (hx : x < 18446744073709551616) : (ByteArray.mk (uvarint x).toArray).size ≤ 10 := by
  rw [size_len]
  exact Lib.uvarint_length64 hx
set_option maxRecDepth 100000 in
theorem text_any (s : ByteArray) (hs : s.size ≤ 1000000) (w : World) :
    Calls Tryd.prog 47 #[.string s] w fun e w' => e = .returned (.string ⟨(text s.data.toList).toArray⟩) ∧ Below w.heap.size w w' := by
  have hz := uv_size (x := s.size) (by omega)
  have HT := Lib.hid (text_eq s)
  have hu := uint_any s.size (by omega)
  generalize ByteArray.mk (uvarint s.size).toArray = t at hz HT hu
  go_enter Tryd.func47, Tryd.ntmps47
  go_wp2_with (go_at_call 45; refine (hu _).mono ?_; rintro e w' ⟨rfl, hb⟩)
  go_ret
  exact ⟨ret_string HT.out, hb⟩
set_option maxRecDepth 100000 in
theorem rtext_any (s : ByteArray) (hs : s.size ≤ 1000000) (w : World) :
    Calls Tryd.prog 50 #[.string s] w fun e w' => e = .returned (.string ⟨(text s.data.toList).toArray⟩) ∧ Below w.heap.size w w' := by
  have hz := uv_size (x := s.size) (by omega)
  have HT := Lib.hid (text_eq s)
  have hu := ruint_any s.size (by omega)
  generalize ByteArray.mk (uvarint s.size).toArray = t at hz HT hu
  go_enter Tryd.func50, Tryd.ntmps50
  go_wp2_with (go_at_call 48; refine (hu _).mono ?_; rintro e w' ⟨rfl, hb⟩)
  go_ret
  exact ⟨ret_string HT.out, hb⟩
end Go.Proofs.YtcedndjpdgpdgaaDoor.W
