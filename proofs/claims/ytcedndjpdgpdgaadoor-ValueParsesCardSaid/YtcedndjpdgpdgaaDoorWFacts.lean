/-
  Plain facts on encodings and what they decode to, for the laws on round trips, proper prefixes and limits.
-/
import Derived.Test.YtcedndjpdgpdgaaDoorWShifts
namespace Go.Proofs.YtcedndjpdgpdgaaDoor.W
open Go.RowKit
open Go.Lib (uvarint zigzag unzigzag)

theorem t_zero (l : List UInt8) : tV l 0 = ((du 0 0 l).1 : Int) ∧ tE l 0 = ((du 0 0 l).2.2 : Int) ∧ (tE l 0 = 0 → tN l 0 = ((du 0 0 l).2.1 : Int)) := by
  have h := tE_in (l := l) (at_ := 0) (in_false (a := 0) (Nat.zero_le _))
  refine ⟨h.1, h.2, fun he => ?_⟩
  unfold tN
  rw [if_pos he]
  show (0 : Int) + ((du 0 0 (from_ l 0)).2.1 : Int) = _
  rw [Int.zero_add]
  rfl
/-- A varint behind other bytes. -/
theorem enc_at (pre rest : List UInt8) {x : Nat} (hx : x < 18446744073709551616) :
    tV (pre ++ (uvarint x ++ rest)) pre.length = x ∧ tE (pre ++ (uvarint x ++ rest)) pre.length = 0 ∧ tN (pre ++ (uvarint x ++ rest)) pre.length = (pre.length + (uvarint x).length : Nat) := by
  have hs := shift_t (l := pre ++ (uvarint x ++ rest)) (a := pre.length) (by simp)
  rw [List.drop_left] at hs
  have hd := du_enc rest x 0 0 (by omega) (by omega) (by omega)
  have h0 := t_zero (uvarint x ++ rest)
  rw [hd] at h0
  have he : tE (uvarint x ++ rest) 0 = 0 := h0.2.1
  refine ⟨?_, hs.2.1.symm.trans he, ?_⟩
  · rw [← hs.1, h0.1]
    show ((0 + x * 128 ^ 0 : Nat) : Int) = x
    omega
  · rw [← hs.2.2 (hs.2.1.symm.trans he), h0.2.2 he]
    show ((0 + (uvarint x).length : Nat) : Int) + (pre.length : Int) = _
    omega
theorem text_length (t : List UInt8) : (text t).length = (uvarint t.length).length + t.length := by unfold text; rw [List.length_append]
/-- A text behind other bytes. -/
theorem text_at (pre rest t : List UInt8) (ht : t.length ≤ 1000000) {m : Int} (hm : (t.length : Int) ≤ m) :
    xE (pre ++ (text t ++ rest)) pre.length m = 0 ∧ xV (pre ++ (text t ++ rest)) pre.length m = t ∧ xN (pre ++ (text t ++ rest)) pre.length m = (pre.length + (text t).length : Nat) ∧
      cV (pre ++ (text t ++ rest)) pre.length m = t.length ∧ cN (pre ++ (text t ++ rest)) pre.length m = (pre.length + (uvarint t.length).length : Nat) := by
  have e : pre ++ (text t ++ rest) = pre ++ (uvarint t.length ++ (t ++ rest)) := by unfold text; rw [List.append_assoc]
  rw [e]
  have h := enc_at pre (t ++ rest) (x := t.length) (by omega)
  have hl : ((pre ++ (uvarint t.length ++ (t ++ rest))).length : Int) = pre.length + (uvarint t.length).length + t.length + rest.length := by
    simp only [List.length_append]; omega
  have hx := xE_ok (most := m) h.2.1 (by rw [h.1]; omega) (by rw [h.1, h.2.2, hl]; omega)
  have hy := x_ok hx
  refine ⟨hx, ?_, ?_, hy.2.2.1.trans h.1, hy.2.2.2.trans h.2.2⟩
  · rw [hy.2.1, h.1, h.2.2, Int.toNat_natCast, Int.toNat_natCast, ← List.append_assoc, ← List.length_append, List.drop_left, List.take_left]
  · rw [hy.1, h.1, h.2.2, text_length]; omega
theorem text_limit (t : List UInt8) (ht : t.length ≤ 1000000) : xE (text t) 0 ((t.length : Int) - 1) = 2 := by
  have h := enc_at [] t (x := t.length) (by omega)
  exact xE_limit h.2.1 (by have := h.1; change tV (text t) 0 = _ at this; omega)
/-- A proper prefix of a varint. -/
theorem uint_cut {x k : Nat} (hx : x < 18446744073709551616) (hk : k < (uvarint x).length) : tV ((uvarint x).take k) 0 = 0 ∧ tN ((uvarint x).take k) 0 = 0 ∧ tE ((uvarint x).take k) 0 = 6 := by
  have h0 := t_zero ((uvarint x).take k)
  rw [du_cut x 0 0 k (by omega) (by omega) (by omega) hk] at h0
  have he : tE ((uvarint x).take k) 0 = 6 := h0.2.1
  have h1 := t_err (l := (uvarint x).take k) (at_ := 0) (by omega)
  exact ⟨h1.1, h1.2, he⟩
/-- A proper prefix of a text's encoding. -/
theorem text_cut {t : List UInt8} {k : Nat} (ht : t.length ≤ 300) (hk : k < (text t).length) {m : Int} (hm : (t.length : Int) ≤ m) : xE ((text t).take k) 0 m = 6 := by
  rw [text_length] at hk
  by_cases h : k < (uvarint t.length).length
  · have e : (text t).take k = (uvarint t.length).take k := by
      unfold text
      rw [List.take_append_of_le_length (by omega)]
    have h1 := uint_cut (x := t.length) (by omega) h
    rw [e, xE_t m (by omega)]
    exact h1.2.2
  · have e : (text t).take k = [] ++ (uvarint t.length ++ t.take (k - (uvarint t.length).length)) := by
      unfold text
      rw [List.take_append, List.take_of_length_le (by omega)]
      rfl
    have h1 := enc_at [] (t.take (k - (uvarint t.length).length)) (x := t.length) (by omega)
    rw [← e] at h1
    have hl : (((text t).take k).length : Int) = k := by rw [List.length_take, text_length]; omega
    have ht0 : ((([] : List UInt8).length : Nat) : Int) = 0 := rfl
    rw [ht0] at h1
    refine xE_short h1.2.1 (by rw [h1.1]; omega) ?_
    rw [h1.1, h1.2.2, hl]
    simp only [List.length_nil]
    omega
theorem zigzag_back (u : Nat) : zigzag (unzigzag u) = u := by
  rw [unz_int]
  unfold zigzag
  split <;> split <;> omega
theorem unz_back {n : Int} : unzigzag (zigzag n) = n := by
  rw [unz_int]
  unfold zigzag
  split <;> split <;> omega
theorem unz_bd {u : Nat} (hu : u < 18446744073709551616) : -9223372036854775808 ≤ unzigzag u ∧ unzigzag u ≤ 9223372036854775807 := by
  rw [unz_int]
  split <;> omega
/-- What TakeUint accepts at the start is the varint of its value. -/
theorem accepted {l : List UInt8} (h : tE l 0 = 0) : ∃ y c : Nat, tV l 0 = y ∧ tN l 0 = c ∧ y < 18446744073709551616 ∧ 1 ≤ c ∧ c ≤ l.length ∧ uvarint y = l.take c := by
  have h0 := t_zero l
  have hb := tV_bd l 0
  have hn := tN_bd h
  obtain ⟨y, _, hv, hc, rest, hr⟩ := du_dec l 0 0 (by omega) (by have := h0.2.1; omega)
  have hv' : tV l 0 = y := by
    rw [h0.1, hv]
    show ((0 + y * 128 ^ 0 : Nat) : Int) = y
    omega
  have hc' : tN l 0 = (uvarint y).length := by rw [h0.2.2 h, hc]; omega
  refine ⟨y, (uvarint y).length, hv', hc', by omega, by omega, by omega, ?_⟩
  rw [hr, List.take_left]
/-- What TakeText accepts at the start is the encoding of its text. -/
theorem accepted_text {l : List UInt8} {m : Int} (h : xE l 0 m = 0) : ∃ c : Nat, xN l 0 m = c ∧ 1 ≤ c ∧ c ≤ l.length ∧ (xV l 0 m).length ≤ l.length ∧ text (xV l 0 m) = l.take c := by
  have hz := xE_zero h
  obtain ⟨y, c, hv, hn, hy, h1, h2, he⟩ := accepted hz.1
  have hx := x_ok h
  rw [hv, hn] at hz hx
  have hlen : ((l.drop c).take y).length = y := by rw [List.length_take, List.length_drop]; omega
  refine ⟨c + y, by rw [hx.1]; omega, by omega, by omega, ?_, ?_⟩
  · rw [hx.2.1, Int.toNat_natCast, Int.toNat_natCast, hlen]; omega
  · rw [hx.2.1, Int.toNat_natCast, Int.toNat_natCast, text, hlen, he, List.take_add]
end Go.Proofs.YtcedndjpdgpdgaaDoor.W
