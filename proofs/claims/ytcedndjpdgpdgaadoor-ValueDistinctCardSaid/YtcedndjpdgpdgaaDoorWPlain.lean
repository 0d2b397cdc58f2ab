/-
  Plain mathematics of layer 2, without the program: what a varint decodes to, byte by byte, and how that fits the encoding.
-/
import Derived.Lib.Varint
import Derived.Lib.VarintDec
namespace Go.Proofs.YtcedndjpdgpdgaaDoor.W
open Go.Lib (uvarint zigzag unzigzag uvarint_small uvarint_big uvarint_length64 uvarint_pos)

/-- Decoding byte by byte: i bytes are read, acc is what their groups spell. The value, the number of bytes read, the error. -/
def du (i acc : Nat) : List UInt8 → Nat × Nat × Nat
  | [] => (0, 0, 6)
  | b :: r =>
    if (i = 9 ∧ 1 < b.toNat) ∨ (0 < i ∧ b.toNat = 0) then (0, 0, 5)
    else if b.toNat < 128 then (acc + b.toNat * 128 ^ i, i + 1, 0)
    else du (i + 1) (acc + b.toNat % 128 * 128 ^ i) r

theorem du_bad {i acc : Nat} {b : UInt8} {r : List UInt8} (h : (i = 9 ∧ 1 < b.toNat) ∨ (0 < i ∧ b.toNat = 0)) : du i acc (b :: r) = (0, 0, 5) := by
  rw [du, if_pos h]
theorem du_last {i acc : Nat} {b : UInt8} {r : List UInt8} (h : ¬ ((i = 9 ∧ 1 < b.toNat) ∨ (0 < i ∧ b.toNat = 0))) (hb : b.toNat < 128) :
    du i acc (b :: r) = (acc + b.toNat * 128 ^ i, i + 1, 0) := by
  rw [du, if_neg h, if_pos hb]
theorem du_more {i acc : Nat} {b : UInt8} {r : List UInt8} (h : ¬ ((i = 9 ∧ 1 < b.toNat) ∨ (0 < i ∧ b.toNat = 0))) (hb : ¬ b.toNat < 128) :
    du i acc (b :: r) = du (i + 1) (acc + b.toNat % 128 * 128 ^ i) r := by
  rw [du, if_neg h, if_neg hb]

/-- With an error nothing is returned. -/
theorem du_err (l : List UInt8) : ∀ i acc, (du i acc l).2.2 ≠ 0 → (du i acc l).1 = 0 ∧ (du i acc l).2.1 = 0 := by
  induction l with
  | nil => intro i acc _; exact ⟨rfl, rfl⟩
  | cons b r ih =>
    intro i acc h
    by_cases h1 : (i = 9 ∧ 1 < b.toNat) ∨ (0 < i ∧ b.toNat = 0)
    · rw [du_bad h1]; exact ⟨rfl, rfl⟩
    · by_cases h2 : b.toNat < 128
      · rw [du_last h1 h2] at h; exact absurd rfl h
      · rw [du_more h1 h2] at h ⊢; exact ih _ _ h
/-- The errors are two. -/
theorem du_errs (l : List UInt8) : ∀ i acc, (du i acc l).2.2 = 0 ∨ (du i acc l).2.2 = 5 ∨ (du i acc l).2.2 = 6 := by
  induction l with
  | nil => intro i acc; exact Or.inr (Or.inr rfl)
  | cons b r ih =>
    intro i acc
    by_cases h1 : (i = 9 ∧ 1 < b.toNat) ∨ (0 < i ∧ b.toNat = 0)
    · rw [du_bad h1]; exact Or.inr (Or.inl rfl)
    · by_cases h2 : b.toNat < 128
      · rw [du_last h1 h2]; exact Or.inl rfl
      · rw [du_more h1 h2]; exact ih _ _
theorem pow_le {i : Nat} (h : i ≤ 8) : (128 : Nat) ^ (i + 1) ≤ 9223372036854775808 :=
  Nat.le_trans (Nat.pow_le_pow_right (by decide) (show i + 1 ≤ 9 by omega)) (by decide)
theorem pow_nine : (128 : Nat) ^ 9 = 9223372036854775808 := by decide
theorem pow_next (i : Nat) : (128 : Nat) ^ (i + 1) = 128 * 128 ^ i := by rw [Nat.pow_succ, Nat.mul_comm]
theorem next_lt {i acc b : Nat} (ha : acc < 128 ^ i) (hb : b < 128) : acc + b * 128 ^ i < 128 ^ (i + 1) := by
  rw [pow_next]
  have : b * 128 ^ i ≤ 127 * 128 ^ i := Nat.mul_le_mul_right _ (by omega)
  omega
/-- What is decoded is a 64-bit number, of at most ten bytes. -/
theorem du_lt (l : List UInt8) : ∀ i acc, i ≤ 9 → acc < 128 ^ i → (du i acc l).1 < 18446744073709551616 ∧ (du i acc l).2.1 ≤ 10 := by
  induction l with
  | nil => intro i acc _ _; exact ⟨show 0 < 18446744073709551616 by decide, show 0 ≤ 10 by decide⟩
  | cons b r ih =>
    intro i acc hi ha
    by_cases h1 : (i = 9 ∧ 1 < b.toNat) ∨ (0 < i ∧ b.toNat = 0)
    · rw [du_bad h1]; exact ⟨by decide, by decide⟩
    · by_cases h2 : b.toNat < 128
      · rw [du_last h1 h2]
        refine ⟨?_, Nat.succ_le_succ hi⟩
        show acc + b.toNat * 128 ^ i < 18446744073709551616
        by_cases h9 : i = 9
        · subst h9
          rw [pow_nine] at *
          omega
        · have := next_lt ha h2
          have := pow_le (i := i) (by omega)
          omega
      · rw [du_more h1 h2]
        have h9 : i ≠ 9 := by rintro rfl; omega
        exact ih _ _ (by omega) (next_lt ha (Nat.mod_lt _ (by decide)))
/-- Where there is no error, one byte at least is read, and no more than there are. -/
theorem du_size (l : List UInt8) : ∀ i acc, (du i acc l).2.2 = 0 → i < (du i acc l).2.1 ∧ (du i acc l).2.1 ≤ i + l.length := by
  induction l with
  | nil => intro i acc h; cases h
  | cons b r ih =>
    intro i acc h
    by_cases h1 : (i = 9 ∧ 1 < b.toNat) ∨ (0 < i ∧ b.toNat = 0)
    · rw [du_bad h1] at h; cases h
    · by_cases h2 : b.toNat < 128
      · rw [du_last h1 h2]
        simp only [List.length_cons]
        omega
      · rw [du_more h1 h2] at h ⊢
        have := ih _ _ h
        simp only [List.length_cons]
        omega

theorem u8_small {x : Nat} (h : x < 256) : (x.toUInt8).toNat = x := by
  simp; omega
theorem fits {x i acc : Nat} (hi : i ≤ 9) (hf : acc + x * 128 ^ i < 18446744073709551616) : i = 9 → x ≤ 1 := by
  rintro rfl
  rw [pow_nine] at hf
  omega
theorem split_pow (x i acc : Nat) : acc + x % 128 * 128 ^ i + x / 128 * 128 ^ (i + 1) = acc + x * 128 ^ i := by
  have h : x / 128 * 128 ^ (i + 1) = x / 128 * 128 * 128 ^ i := by rw [pow_next, Nat.mul_assoc]
  have h2 : x * 128 ^ i = (x % 128 + x / 128 * 128) * 128 ^ i := by
    congr 1; omega
  rw [h, h2, Nat.add_mul]
  omega
/-- A varint is decoded to its number, whatever follows it. -/
theorem du_enc (rest : List UInt8) (x : Nat) : ∀ i acc, i ≤ 9 → (0 < i → 0 < x) → acc + x * 128 ^ i < 18446744073709551616 →
    du i acc (uvarint x ++ rest) = (acc + x * 128 ^ i, i + (uvarint x).length, 0) := by
  induction x using Nat.strongRecOn with
  | _ x ih =>
    intro i acc hi h0 hf
    have h9 := fits hi hf
    by_cases hx : x < 128
    · rw [uvarint_small hx]
      have e : (x.toUInt8).toNat = x := u8_small (by omega)
      show du i acc (x.toUInt8 :: rest) = _
      rw [du_last (by rw [e]; omega) (by omega), e]
      rfl
    · rw [uvarint_big (by omega)]
      have e : ((x % 128 + 128).toUInt8).toNat = x % 128 + 128 := u8_small (by omega)
      show du i acc ((x % 128 + 128).toUInt8 :: (uvarint (x / 128) ++ rest)) = _
      have hm : (x % 128 + 128) % 128 = x % 128 := by omega
      have hs := split_pow x i acc
      rw [du_more (by rw [e]; omega) (by omega), e, hm, ih (x / 128) (by omega) (i + 1) _ (by omega) (fun _ => by omega) (by omega), hs, List.length_cons]
      congr 2
      omega
/-- A proper prefix of a varint is truncated. -/
theorem du_cut (x : Nat) : ∀ i acc k, i ≤ 9 → (0 < i → 0 < x) → acc + x * 128 ^ i < 18446744073709551616 → k < (uvarint x).length →
    du i acc ((uvarint x).take k) = (0, 0, 6) := by
  induction x using Nat.strongRecOn with
  | _ x ih =>
    intro i acc k hi h0 hf hk
    have h9 := fits hi hf
    by_cases hx : x < 128
    · rw [uvarint_small hx] at hk ⊢
      have : k = 0 := by simpa using hk
      subst this
      rfl
    · rw [uvarint_big (by omega)] at hk ⊢
      match k with
      | 0 => rfl
      | k + 1 =>
        have e : ((x % 128 + 128).toUInt8).toNat = x % 128 + 128 := u8_small (by omega)
        have hm : (x % 128 + 128) % 128 = x % 128 := by omega
        have hs := split_pow x i acc
        rw [List.take_succ_cons, du_more (by rw [e]; omega) (by omega), e, hm]
        exact ih (x / 128) (by omega) (i + 1) _ k (by omega) (fun _ => by omega) (by omega) (by simpa using hk)
/-- What is accepted is the varint of its value. -/
theorem du_dec (l : List UInt8) : ∀ i acc, i ≤ 9 → (du i acc l).2.2 = 0 →
    ∃ y, (0 < i → 0 < y) ∧ (du i acc l).1 = acc + y * 128 ^ i ∧ (du i acc l).2.1 = i + (uvarint y).length ∧ ∃ rest, l = uvarint y ++ rest := by
  induction l with
  | nil => intro i acc _ h; cases h
  | cons b r ih =>
    intro i acc hi h
    by_cases h1 : (i = 9 ∧ 1 < b.toNat) ∨ (0 < i ∧ b.toNat = 0)
    · rw [du_bad h1] at h; cases h
    · by_cases h2 : b.toNat < 128
      · rw [du_last h1 h2]
        refine ⟨b.toNat, by omega, rfl, by rw [uvarint_small h2]; rfl, r, ?_⟩
        rw [uvarint_small h2]
        simp
      · rw [du_more h1 h2] at h ⊢
        have h9 : i ≠ 9 := by rintro rfl; omega
        obtain ⟨y, hy, hv, hc, rest, hr⟩ := ih _ _ (by omega) h
        have hb : b.toNat < 256 := b.toNat_lt
        have hy := hy (by omega)
        have e1 : (y * 128 + b.toNat % 128) % 128 = b.toNat % 128 := by omega
        have e2 : (y * 128 + b.toNat % 128) / 128 = y := by omega
        have eb : (b.toNat % 128 + 128).toUInt8 = b := by
          rw [show b.toNat % 128 + 128 = b.toNat by omega]; simp
        refine ⟨y * 128 + b.toNat % 128, fun _ => by omega, ?_, ?_, rest, ?_⟩
        · rw [hv]
          have := split_pow (y * 128 + b.toNat % 128) i acc
          rw [e1, e2] at this
          exact this
        · rw [hc, uvarint_big (x := y * 128 + b.toNat % 128) (by omega), e1, e2, List.length_cons]
          omega
        · rw [uvarint_big (x := y * 128 + b.toNat % 128) (by omega), e1, e2, eb, hr]
          rfl

/-! ### a Take function at an offset -/

/-- the bytes from an offset on -/
def from_ (l : List UInt8) (at_ : Int) : List UInt8 := l.drop at_.toNat
/-- is the offset outside? -/
def outside (l : List UInt8) (at_ : Int) : Bool := decide (at_ < 0 ∨ (l.length : Int) < at_)
/-- TakeUint: the value, the offset behind it, the error -/
def tV (l : List UInt8) (at_ : Int) : Int := if outside l at_ then 0 else ((du 0 0 (from_ l at_)).1 : Int)
def tE (l : List UInt8) (at_ : Int) : Int := if outside l at_ then 1 else ((du 0 0 (from_ l at_)).2.2 : Int)
def tN (l : List UInt8) (at_ : Int) : Int := if tE l at_ = 0 then at_ + ((du 0 0 (from_ l at_)).2.1 : Int) else 0

theorem tV_bd (l : List UInt8) (at_ : Int) : 0 ≤ tV l at_ ∧ tV l at_ < 18446744073709551616 := by
  unfold tV
  split
  · omega
  · have := (du_lt (from_ l at_) 0 0 (by omega) (by decide)).1
    omega
theorem outside_false {l : List UInt8} {at_ : Int} (h : outside l at_ = false) : 0 ≤ at_ ∧ at_ ≤ l.length := by
  unfold outside at h
  have := of_decide_eq_false h
  omega
theorem outside_true {l : List UInt8} {at_ : Int} (h : outside l at_ = true) : at_ < 0 ∨ (l.length : Int) < at_ := by
  unfold outside at h
  exact of_decide_eq_true h
theorem tE_out {l : List UInt8} {at_ : Int} (h : outside l at_ = true) : tV l at_ = 0 ∧ tE l at_ = 1 ∧ tN l at_ = 0 := by
  unfold tN tV tE
  rw [h]
  exact ⟨rfl, rfl, rfl⟩
theorem tE_in {l : List UInt8} {at_ : Int} (h : outside l at_ = false) : tV l at_ = ((du 0 0 (from_ l at_)).1 : Int) ∧ tE l at_ = ((du 0 0 (from_ l at_)).2.2 : Int) := by
  unfold tV tE
  rw [h]
  exact ⟨rfl, rfl⟩
theorem t_err {l : List UInt8} {at_ : Int} (h : tE l at_ ≠ 0) : tV l at_ = 0 ∧ tN l at_ = 0 := by
  refine ⟨?_, by unfold tN; rw [if_neg h]⟩
  cases ho : outside l at_
  · have h2 := tE_in ho
    rw [h2.1]
    rw [h2.2] at h
    have := (du_err (from_ l at_) 0 0 (by omega)).1
    omega
  · exact (tE_out ho).1
theorem t_errs (l : List UInt8) (at_ : Int) : tE l at_ = 0 ∨ tE l at_ = 1 ∨ tE l at_ = 5 ∨ tE l at_ = 6 := by
  cases ho : outside l at_
  · have h2 := tE_in ho
    rw [h2.2]
    have := du_errs (from_ l at_) 0 0
    omega
  · exact Or.inr (Or.inl (tE_out ho).2.1)
theorem from_length {l : List UInt8} {at_ : Int} (h : 0 ≤ at_) (h2 : at_ ≤ l.length) : ((from_ l at_).length : Int) = l.length - at_ := by
  unfold from_
  rw [List.length_drop]
  omega
/-- Where there is no error the offset lies behind the one where it began, in the text. -/
theorem tN_bd {l : List UInt8} {at_ : Int} (h : tE l at_ = 0) : 0 ≤ at_ ∧ at_ < tN l at_ ∧ tN l at_ ≤ at_ + 10 ∧ tN l at_ ≤ l.length := by
  cases ho : outside l at_
  · have h2 := tE_in ho
    have h3 := outside_false ho
    have h4 := from_length h3.1 h3.2
    rw [h2.2] at h
    have h5 := du_size (from_ l at_) 0 0 (by omega)
    have h6 := (du_lt (from_ l at_) 0 0 (by omega) (by decide)).2
    have h7 : tE l at_ = 0 := by rw [h2.2]; exact h
    unfold tN
    rw [if_pos h7]
    omega
  · have := (tE_out ho).2.1
    omega

/-! ### texts and counts -/

/-- TakeText behind the number: the error -/
def xE (l : List UInt8) (at_ most : Int) : Int :=
  if tE l at_ ≠ 0 then tE l at_ else if most < 0 ∨ most < tV l at_ then 2 else if (l.length : Int) - tN l at_ < tV l at_ then 6 else 0
/-- TakeText: the offset, the bytes; TakeCount: the number, the offset -/
def xN (l : List UInt8) (at_ most : Int) : Int := if xE l at_ most = 0 then tN l at_ + tV l at_ else 0
def xV (l : List UInt8) (at_ most : Int) : List UInt8 := if xE l at_ most = 0 then (l.drop (tN l at_).toNat).take (tV l at_).toNat else []
def cV (l : List UInt8) (at_ most : Int) : Int := if xE l at_ most = 0 then tV l at_ else 0
def cN (l : List UInt8) (at_ most : Int) : Int := if xE l at_ most = 0 then tN l at_ else 0

theorem xE_t {l : List UInt8} {at_ : Int} (most : Int) (h : tE l at_ ≠ 0) : xE l at_ most = tE l at_ := if_pos h
theorem xE_limit {l : List UInt8} {at_ most : Int} (h : tE l at_ = 0) (h2 : most < 0 ∨ most < tV l at_) : xE l at_ most = 2 := by
  unfold xE
  rw [if_neg (by omega), if_pos h2]
theorem xE_short {l : List UInt8} {at_ most : Int} (h : tE l at_ = 0) (h2 : ¬ (most < 0 ∨ most < tV l at_)) (h3 : (l.length : Int) - tN l at_ < tV l at_) : xE l at_ most = 6 := by
  unfold xE
  rw [if_neg (by omega), if_neg h2, if_pos h3]
theorem xE_ok {l : List UInt8} {at_ most : Int} (h : tE l at_ = 0) (h2 : ¬ (most < 0 ∨ most < tV l at_)) (h3 : ¬ (l.length : Int) - tN l at_ < tV l at_) : xE l at_ most = 0 := by
  unfold xE
  rw [if_neg (by omega), if_neg h2, if_neg h3]
theorem xE_zero {l : List UInt8} {at_ most : Int} (h : xE l at_ most = 0) : tE l at_ = 0 ∧ 0 ≤ most ∧ tV l at_ ≤ most ∧ tV l at_ ≤ (l.length : Int) - tN l at_ := by
  by_cases h1 : tE l at_ = 0
  · by_cases h2 : most < 0 ∨ most < tV l at_
    · rw [xE_limit h1 h2] at h; omega
    · by_cases h3 : (l.length : Int) - tN l at_ < tV l at_
      · rw [xE_short h1 h2 h3] at h; omega
      · omega
  · rw [xE_t most h1] at h; exact absurd h h1
theorem x_err {l : List UInt8} {at_ most : Int} (h : xE l at_ most ≠ 0) : xN l at_ most = 0 ∧ xV l at_ most = [] ∧ cV l at_ most = 0 ∧ cN l at_ most = 0 := by
  unfold xN xV cV cN
  rw [if_neg h, if_neg h, if_neg h, if_neg h]
  exact ⟨rfl, rfl, rfl, rfl⟩
theorem x_ok {l : List UInt8} {at_ most : Int} (h : xE l at_ most = 0) : xN l at_ most = tN l at_ + tV l at_ ∧ xV l at_ most = (l.drop (tN l at_).toNat).take (tV l at_).toNat ∧ cV l at_ most = tV l at_ ∧ cN l at_ most = tN l at_ := by
  unfold xN xV cV cN
  rw [if_pos h, if_pos h, if_pos h, if_pos h]
  exact ⟨rfl, rfl, rfl, rfl⟩
/-- the encoding of a text -/
def text (l : List UInt8) : List UInt8 := uvarint l.length ++ l

/-- TakeBool -/
def bV (l : List UInt8) (at_ : Int) : Bool := !outside l at_ && (from_ l at_).head? == some 1
def bE (l : List UInt8) (at_ : Int) : Int :=
  if outside l at_ then 1 else match (from_ l at_).head? with | none => 6 | some b => if 1 < b.toNat then 5 else 0
def bN (l : List UInt8) (at_ : Int) : Int := if bE l at_ = 0 then at_ + 1 else 0
end Go.Proofs.YtcedndjpdgpdgaaDoor.W
