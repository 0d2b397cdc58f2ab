/-
  Plain mathematics of layer 2, without the program: what a varint decodes to, byte by byte, and how that fits the encoding.
  What the encoders return, of the program and of the reference: contracts, one a function.
  What the small encoders return, of the program and of the reference: zigzag numbers, integers, truth values, texts.
  What TakeUint returns, of the program and of the reference, for every text and every offset.
  What the reference's TakeUint returns, for every text and every offset.
  What TakeUint, TakeInt and TakeBool return, of the program and of the reference: one contract a function, for every text and every offset.
  What TakeCount and TakeText return, of the program and of the reference: one contract a function, for every text, every offset and every limit.
  The examples of the chapter, which every law of the layer asks again: the call returns true.
  The law on decoding at an offset, walked.
  Plain facts on encodings and what they decode to, for the laws on round trips, proper prefixes and limits.
-/
import Derived.Lib.Varint
import Derived.Lib.VarintDec
import Derived.Test.YtieloegadhgipaaShelf
import Derived.WalkKit
import Derived.LoopTactic
import Derived.OwnWalk
import Derived.ArgAppend
import Derived.Lib.Walk
import Derived.Lib.VarintMem
import Derived.Lib.Zigzag
import Derived.Lib.Strings
import Derived.Lib.IndexBytes
import Derived.Lib.Hide
import Derived.Laws.IdiomStrings
import Derived.Lib.VarintBits
import Derived.Laws.Closers25b
namespace Go.Proofs.Ytieloegadhgipaa.W
open Go.Lib (uvarint zigzag unzigzag uvarint_small uvarint_big uvarint_length64 uvarint_pos)

/-- Decoding byte by byte: i bytes are read, acc is what their groups spell. The value, the number of bytes read, the error. -/
def du (i acc : Nat) : List UInt8 → Nat × Nat × Nat
  | [] => (0, 0, 6)
  | b :: r =>
    if (i = 9 ∧ 1 < b.toNat) ∨ (0 < i ∧ b.toNat = 0) then (0, 0, 5)
    else if b.toNat < 128 then (acc + b.toNat * 128 ^ i, i + 1, 0)
    else du (i + 1) (acc + b.toNat % 128 * 128 ^ i) r

theorem du_bad {i acc : Nat} {b : UInt8} {r : List UInt8} (h : (i = 9 ∧ 1 < b.toNat) ∨ (0 < i ∧ b.toNat = 0)) : du i acc (b :: r) = (0, 0, 5) := by
  rw [du, if_pos h]
theorem du_last {i acc : Nat} {b : UInt8} {r : List UInt8} (h : ¬ ((i = 9 ∧ 1 < b.toNat) ∨ (0 < i ∧ b.toNat = 0))) (hb : b.toNat < 128) :
    du i acc (b :: r) = (acc + b.toNat * 128 ^ i, i + 1, 0) := by
  rw [du, if_neg h, if_pos hb]
theorem du_more {i acc : Nat} {b : UInt8} {r : List UInt8} (h : ¬ ((i = 9 ∧ 1 < b.toNat) ∨ (0 < i ∧ b.toNat = 0))) (hb : ¬ b.toNat < 128) :
    du i acc (b :: r) = du (i + 1) (acc + b.toNat % 128 * 128 ^ i) r := by
  rw [du, if_neg h, if_neg hb]

/-- With an error nothing is returned. -/
theorem du_err (l : List UInt8) : ∀ i acc, (du i acc l).2.2 ≠ 0 → (du i acc l).1 = 0 ∧ (du i acc l).2.1 = 0 := by
  induction l with
  | nil => intro i acc _; exact ⟨rfl, rfl⟩
  | cons b r ih =>
    intro i acc h
    by_cases h1 : (i = 9 ∧ 1 < b.toNat) ∨ (0 < i ∧ b.toNat = 0)
    · rw [du_bad h1]; exact ⟨rfl, rfl⟩
    · by_cases h2 : b.toNat < 128
      · rw [du_last h1 h2] at h; exact absurd rfl h
      · rw [du_more h1 h2] at h ⊢; exact ih _ _ h
/-- The errors are two. -/
theorem du_errs (l : List UInt8) : ∀ i acc, (du i acc l).2.2 = 0 ∨ (du i acc l).2.2 = 5 ∨ (du i acc l).2.2 = 6 := by
  induction l with
  | nil => intro i acc; exact Or.inr (Or.inr rfl)
  | cons b r ih =>
    intro i acc
    by_cases h1 : (i = 9 ∧ 1 < b.toNat) ∨ (0 < i ∧ b.toNat = 0)
    · rw [du_bad h1]; exact Or.inr (Or.inl rfl)
    · by_cases h2 : b.toNat < 128
      · rw [du_last h1 h2]; exact Or.inl rfl
      · rw [du_more h1 h2]; exact ih _ _
theorem pow_le {i : Nat} (h : i ≤ 8) : (128 : Nat) ^ (i + 1) ≤ 9223372036854775808 :=
  Nat.le_trans (Nat.pow_le_pow_right (by decide) (show i + 1 ≤ 9 by omega)) (by decide)
theorem pow_nine : (128 : Nat) ^ 9 = 9223372036854775808 := by decide
theorem pow_next (i : Nat) : (128 : Nat) ^ (i + 1) = 128 * 128 ^ i := by rw [Nat.pow_succ, Nat.mul_comm]
theorem next_lt {i acc b : Nat} (ha : acc < 128 ^ i) (hb : b < 128) : acc + b * 128 ^ i < 128 ^ (i + 1) := by
  rw [pow_next]
  have : b * 128 ^ i ≤ 127 * 128 ^ i := Nat.mul_le_mul_right _ (by omega)
  omega
/-- What is decoded is a 64-bit number, of at most ten bytes. -/
theorem du_lt (l : List UInt8) : ∀ i acc, i ≤ 9 → acc < 128 ^ i → (du i acc l).1 < 18446744073709551616 ∧ (du i acc l).2.1 ≤ 10 := by
  induction l with
  | nil => intro i acc _ _; exact ⟨show 0 < 18446744073709551616 by decide, show 0 ≤ 10 by decide⟩
  | cons b r ih =>
    intro i acc hi ha
    by_cases h1 : (i = 9 ∧ 1 < b.toNat) ∨ (0 < i ∧ b.toNat = 0)
    · rw [du_bad h1]; exact ⟨by decide, by decide⟩
    · by_cases h2 : b.toNat < 128
      · rw [du_last h1 h2]
        refine ⟨?_, Nat.succ_le_succ hi⟩
        show acc + b.toNat * 128 ^ i < 18446744073709551616
        by_cases h9 : i = 9
        · subst h9
          rw [pow_nine] at *
          omega
        · have := next_lt ha h2
          have := pow_le (i := i) (by omega)
          omega
      · rw [du_more h1 h2]
        have h9 : i ≠ 9 := by rintro rfl; omega
        exact ih _ _ (by omega) (next_lt ha (Nat.mod_lt _ (by decide)))
/-- Where there is no error, one byte at least is read, and no more than there are. -/
theorem du_size (l : List UInt8) : ∀ i acc, (du i acc l).2.2 = 0 → i < (du i acc l).2.1 ∧ (du i acc l).2.1 ≤ i + l.length := by
  induction l with
  | nil => intro i acc h; cases h
  | cons b r ih =>
    intro i acc h
    by_cases h1 : (i = 9 ∧ 1 < b.toNat) ∨ (0 < i ∧ b.toNat = 0)
    · rw [du_bad h1] at h; cases h
    · by_cases h2 : b.toNat < 128
      · rw [du_last h1 h2]
        simp only [List.length_cons]
        omega
      · rw [du_more h1 h2] at h ⊢
        have := ih _ _ h
        simp only [List.length_cons]
        omega

theorem u8_small {x : Nat} (h : x < 256) : (x.toUInt8).toNat = x := by
  simp; omega
theorem fits {x i acc : Nat} (hi : i ≤ 9) (hf : acc + x * 128 ^ i < 18446744073709551616) : i = 9 → x ≤ 1 := by
  rintro rfl
  rw [pow_nine] at hf
  omega
theorem split_pow (x i acc : Nat) : acc + x % 128 * 128 ^ i + x / 128 * 128 ^ (i + 1) = acc + x * 128 ^ i := by
  have h : x / 128 * 128 ^ (i + 1) = x / 128 * 128 * 128 ^ i := by rw [pow_next, Nat.mul_assoc]
  have h2 : x * 128 ^ i = (x % 128 + x / 128 * 128) * 128 ^ i := by
    congr 1; omega
  rw [h, h2, Nat.add_mul]
  omega
/-- A varint is decoded to its number, whatever follows it. -/
theorem du_enc (rest : List UInt8) (x : Nat) : ∀ i acc, i ≤ 9 → (0 < i → 0 < x) → acc + x * 128 ^ i < 18446744073709551616 →
    du i acc (uvarint x ++ rest) = (acc + x * 128 ^ i, i + (uvarint x).length, 0) := by
  induction x using Nat.strongRecOn with
  | _ x ih =>
    intro i acc hi h0 hf
    have h9 := fits hi hf
    by_cases hx : x < 128
    · rw [uvarint_small hx]
      have e : (x.toUInt8).toNat = x := u8_small (by omega)
      show du i acc (x.toUInt8 :: rest) = _
      rw [du_last (by rw [e]; omega) (by omega), e]
      rfl
    · rw [uvarint_big (by omega)]
      have e : ((x % 128 + 128).toUInt8).toNat = x % 128 + 128 := u8_small (by omega)
      show du i acc ((x % 128 + 128).toUInt8 :: (uvarint (x / 128) ++ rest)) = _
      have hm : (x % 128 + 128) % 128 = x % 128 := by omega
      have hs := split_pow x i acc
      rw [du_more (by rw [e]; omega) (by omega), e, hm, ih (x / 128) (by omega) (i + 1) _ (by omega) (fun _ => by omega) (by omega), hs, List.length_cons]
      congr 2
      omega
/-- A proper prefix of a varint is truncated. -/
theorem du_cut (x : Nat) : ∀ i acc k, i ≤ 9 → (0 < i → 0 < x) → acc + x * 128 ^ i < 18446744073709551616 → k < (uvarint x).length →
    du i acc ((uvarint x).take k) = (0, 0, 6) := by
  induction x using Nat.strongRecOn with
  | _ x ih =>
    intro i acc k hi h0 hf hk
    have h9 := fits hi hf
    by_cases hx : x < 128
    · rw [uvarint_small hx] at hk ⊢
      have : k = 0 := by simpa using hk
      subst this
      rfl
    · rw [uvarint_big (by omega)] at hk ⊢
      match k with
      | 0 => rfl
      | k + 1 =>
        have e : ((x % 128 + 128).toUInt8).toNat = x % 128 + 128 := u8_small (by omega)
        have hm : (x % 128 + 128) % 128 = x % 128 := by omega
        have hs := split_pow x i acc
        rw [List.take_succ_cons, du_more (by rw [e]; omega) (by omega), e, hm]
        exact ih (x / 128) (by omega) (i + 1) _ k (by omega) (fun _ => by omega) (by omega) (by simpa using hk)
/-- What is accepted is the varint of its value. -/
theorem du_dec (l : List UInt8) : ∀ i acc, i ≤ 9 → (du i acc l).2.2 = 0 →
    ∃ y, (0 < i → 0 < y) ∧ (du i acc l).1 = acc + y * 128 ^ i ∧ (du i acc l).2.1 = i + (uvarint y).length ∧ ∃ rest, l = uvarint y ++ rest := by
  induction l with
  | nil => intro i acc _ h; cases h
  | cons b r ih =>
    intro i acc hi h
    by_cases h1 : (i = 9 ∧ 1 < b.toNat) ∨ (0 < i ∧ b.toNat = 0)
    · rw [du_bad h1] at h; cases h
    · by_cases h2 : b.toNat < 128
      · rw [du_last h1 h2]
        refine ⟨b.toNat, by omega, rfl, by rw [uvarint_small h2]; rfl, r, ?_⟩
        rw [uvarint_small h2]
        simp
      · rw [du_more h1 h2] at h ⊢
        have h9 : i ≠ 9 := by rintro rfl; omega
        obtain ⟨y, hy, hv, hc, rest, hr⟩ := ih _ _ (by omega) h
        have hb : b.toNat < 256 := b.toNat_lt
        have hy := hy (by omega)
        have e1 : (y * 128 + b.toNat % 128) % 128 = b.toNat % 128 := by omega
        have e2 : (y * 128 + b.toNat % 128) / 128 = y := by omega
        have eb : (b.toNat % 128 + 128).toUInt8 = b := by
          rw [show b.toNat % 128 + 128 = b.toNat by omega]; simp
        refine ⟨y * 128 + b.toNat % 128, fun _ => by omega, ?_, ?_, rest, ?_⟩
        · rw [hv]
          have := split_pow (y * 128 + b.toNat % 128) i acc
          rw [e1, e2] at this
          exact this
        · rw [hc, uvarint_big (x := y * 128 + b.toNat % 128) (by omega), e1, e2, List.length_cons]
          omega
        · rw [uvarint_big (x := y * 128 + b.toNat % 128) (by omega), e1, e2, eb, hr]
          rfl

/-! ### a Take function at an offset -/

/-- the bytes from an offset on -/
def from_ (l : List UInt8) (at_ : Int) : List UInt8 := l.drop at_.toNat
/-- is the offset outside? -/
def outside (l : List UInt8) (at_ : Int) : Bool := decide (at_ < 0 ∨ (l.length : Int) < at_)
/-- TakeUint: the value, the offset behind it, the error -/
def tV (l : List UInt8) (at_ : Int) : Int := if outside l at_ then 0 else ((du 0 0 (from_ l at_)).1 : Int)
def tE (l : List UInt8) (at_ : Int) : Int := if outside l at_ then 1 else ((du 0 0 (from_ l at_)).2.2 : Int)
def tN (l : List UInt8) (at_ : Int) : Int := if tE l at_ = 0 then at_ + ((du 0 0 (from_ l at_)).2.1 : Int) else 0

theorem tV_bd (l : List UInt8) (at_ : Int) : 0 ≤ tV l at_ ∧ tV l at_ < 18446744073709551616 := by
  unfold tV
  split
  · omega
  · have := (du_lt (from_ l at_) 0 0 (by omega) (by decide)).1
    omega
theorem outside_false {l : List UInt8} {at_ : Int} (h : outside l at_ = false) : 0 ≤ at_ ∧ at_ ≤ l.length := by
  unfold outside at h
  have := of_decide_eq_false h
  omega
theorem outside_true {l : List UInt8} {at_ : Int} (h : outside l at_ = true) : at_ < 0 ∨ (l.length : Int) < at_ := by
  unfold outside at h
  exact of_decide_eq_true h
theorem tE_out {l : List UInt8} {at_ : Int} (h : outside l at_ = true) : tV l at_ = 0 ∧ tE l at_ = 1 ∧ tN l at_ = 0 := by
  unfold tN tV tE
  rw [h]
  exact ⟨rfl, rfl, rfl⟩
theorem tE_in {l : List UInt8} {at_ : Int} (h : outside l at_ = false) : tV l at_ = ((du 0 0 (from_ l at_)).1 : Int) ∧ tE l at_ = ((du 0 0 (from_ l at_)).2.2 : Int) := by
  unfold tV tE
  rw [h]
  exact ⟨rfl, rfl⟩
theorem t_err {l : List UInt8} {at_ : Int} (h : tE l at_ ≠ 0) : tV l at_ = 0 ∧ tN l at_ = 0 := by
  refine ⟨?_, by unfold tN; rw [if_neg h]⟩
  cases ho : outside l at_
  · have h2 := tE_in ho
    rw [h2.1]
    rw [h2.2] at h
    have := (du_err (from_ l at_) 0 0 (by omega)).1
    omega
  · exact (tE_out ho).1
theorem t_errs (l : List UInt8) (at_ : Int) : tE l at_ = 0 ∨ tE l at_ = 1 ∨ tE l at_ = 5 ∨ tE l at_ = 6 := by
  cases ho : outside l at_
  · have h2 := tE_in ho
    rw [h2.2]
    have := du_errs (from_ l at_) 0 0
    omega
  · exact Or.inr (Or.inl (tE_out ho).2.1)
theorem from_length {l : List UInt8} {at_ : Int} (h : 0 ≤ at_) (h2 : at_ ≤ l.length) : ((from_ l at_).length : Int) = l.length - at_ := by
  unfold from_
  rw [List.length_drop]
  omega
/-- Where there is no error the offset lies behind the one where it began, in the text. -/
theorem tN_bd {l : List UInt8} {at_ : Int} (h : tE l at_ = 0) : 0 ≤ at_ ∧ at_ < tN l at_ ∧ tN l at_ ≤ at_ + 10 ∧ tN l at_ ≤ l.length := by
  cases ho : outside l at_
  · have h2 := tE_in ho
    have h3 := outside_false ho
    have h4 := from_length h3.1 h3.2
    rw [h2.2] at h
    have h5 := du_size (from_ l at_) 0 0 (by omega)
    have h6 := (du_lt (from_ l at_) 0 0 (by omega) (by decide)).2
    have h7 : tE l at_ = 0 := by rw [h2.2]; exact h
    unfold tN
    rw [if_pos h7]
    omega
  · have := (tE_out ho).2.1
    omega

/-! ### texts and counts -/

/-- TakeText behind the number: the error -/
def xE (l : List UInt8) (at_ most : Int) : Int :=
  if tE l at_ ≠ 0 then tE l at_ else if most < 0 ∨ most < tV l at_ then 2 else if (l.length : Int) - tN l at_ < tV l at_ then 6 else 0
/-- TakeText: the offset, the bytes; TakeCount: the number, the offset -/
def xN (l : List UInt8) (at_ most : Int) : Int := if xE l at_ most = 0 then tN l at_ + tV l at_ else 0
def xV (l : List UInt8) (at_ most : Int) : List UInt8 := if xE l at_ most = 0 then (l.drop (tN l at_).toNat).take (tV l at_).toNat else []
def cV (l : List UInt8) (at_ most : Int) : Int := if xE l at_ most = 0 then tV l at_ else 0
def cN (l : List UInt8) (at_ most : Int) : Int := if xE l at_ most = 0 then tN l at_ else 0

theorem xE_t {l : List UInt8} {at_ : Int} (most : Int) (h : tE l at_ ≠ 0) : xE l at_ most = tE l at_ := if_pos h
theorem xE_limit {l : List UInt8} {at_ most : Int} (h : tE l at_ = 0) (h2 : most < 0 ∨ most < tV l at_) : xE l at_ most = 2 := by
  unfold xE
  rw [if_neg (by omega), if_pos h2]
theorem xE_short {l : List UInt8} {at_ most : Int} (h : tE l at_ = 0) (h2 : ¬ (most < 0 ∨ most < tV l at_)) (h3 : (l.length : Int) - tN l at_ < tV l at_) : xE l at_ most = 6 := by
  unfold xE
  rw [if_neg (by omega), if_neg h2, if_pos h3]
theorem xE_ok {l : List UInt8} {at_ most : Int} (h : tE l at_ = 0) (h2 : ¬ (most < 0 ∨ most < tV l at_)) (h3 : ¬ (l.length : Int) - tN l at_ < tV l at_) : xE l at_ most = 0 := by
  unfold xE
  rw [if_neg (by omega), if_neg h2, if_neg h3]
theorem xE_zero {l : List UInt8} {at_ most : Int} (h : xE l at_ most = 0) : tE l at_ = 0 ∧ 0 ≤ most ∧ tV l at_ ≤ most ∧ tV l at_ ≤ (l.length : Int) - tN l at_ := by
  by_cases h1 : tE l at_ = 0
  · by_cases h2 : most < 0 ∨ most < tV l at_
    · rw [xE_limit h1 h2] at h; omega
    · by_cases h3 : (l.length : Int) - tN l at_ < tV l at_
      · rw [xE_short h1 h2 h3] at h; omega
      · omega
  · rw [xE_t most h1] at h; exact absurd h h1
theorem x_err {l : List UInt8} {at_ most : Int} (h : xE l at_ most ≠ 0) : xN l at_ most = 0 ∧ xV l at_ most = [] ∧ cV l at_ most = 0 ∧ cN l at_ most = 0 := by
  unfold xN xV cV cN
  rw [if_neg h, if_neg h, if_neg h, if_neg h]
  exact ⟨rfl, rfl, rfl, rfl⟩
theorem x_ok {l : List UInt8} {at_ most : Int} (h : xE l at_ most = 0) : xN l at_ most = tN l at_ + tV l at_ ∧ xV l at_ most = (l.drop (tN l at_).toNat).take (tV l at_).toNat ∧ cV l at_ most = tV l at_ ∧ cN l at_ most = tN l at_ := by
  unfold xN xV cV cN
  rw [if_pos h, if_pos h, if_pos h, if_pos h]
  exact ⟨rfl, rfl, rfl, rfl⟩
/-- the encoding of a text -/
def text (l : List UInt8) : List UInt8 := uvarint l.length ++ l

/-- TakeBool -/
def bV (l : List UInt8) (at_ : Int) : Bool := !outside l at_ && (from_ l at_).head? == some 1
def bE (l : List UInt8) (at_ : Int) : Int :=
  if outside l at_ then 1 else match (from_ l at_).head? with | none => 6 | some b => if 1 < b.toNat then 5 else 0
def bN (l : List UInt8) (at_ : Int) : Int := if bE l at_ = 0 then at_ + 1 else 0
end Go.Proofs.Ytieloegadhgipaa.W
namespace Go.Proofs.Ytieloegadhgipaa.W
open Go.RowKit
open Go.Lib (uvarint zigzag unzigzag byteCells)

theorem info5 : (Try.prog.info? 5).map (fun i => (i.zero, i.size, i.bytes)) = some (some (.int .u8 0), 1, 1) := by kernel_rfl

theorem ownsRow_base {w : World} {base base' : Nat} {e : TypeId} {size : Nat} {v : Value} {n : Nat} {xs : List Value} (h : w.ownsRow base e size v n xs) (hb : base' ≤ base) : w.ownsRow base' e size v n xs := by
  refine ⟨h.1, ?_⟩
  rcases h.2 with h2 | ⟨g, cap, cur, hv, hg, r⟩
  · exact Or.inl h2
  · exact Or.inr ⟨g, cap, cur, hv, by omega, r⟩
theorem below_grown {w w1 : World} {o : Obj} (h : (w.alloc o).grownBy w1 none) : Below w.heap.size w w1 :=
  ((Below.refl _ _).alloc (Nat.le_refl _) _).grown h (by simp) (fun _ h => by cases h)
/-- extended: the list, copied, and the byte behind it. -/
theorem extended_nil (b : Int) (w : World) :
    Calls Try.prog 74 #[.slice none 0 0, .int .u8 b] w fun e w' => ∃ v', e = .returned v' ∧ w'.ownsRow w.heap.size 5 1 v' 1 [.int .u8 b] ∧ Below w.heap.size w w' := by
  obtain ⟨i0, hi, hz0, hz1, hz2⟩ := info_parts info5
  go_enter Try.func74, Try.ntmps74
  go_wp2_with (at_builtin; refine wpList_append_grows _ rfl (.tmp 10) (.tmp 12) 64 rfl 5 i0 (.int .u8 0) 1 1 Try.underlying64 hi hz0 hz1 hz2 rfl (by decide) none 0 0 [] rfl (fun _ => ⟨rfl, rfl⟩) rfl (fun _ h => by cases h) ⟨w.heap.size, 0, none⟩ 1 1 [.int .u8 b] rfl rfl ?c1 ?c2 (by omega) (by decide) (by decide) ?_)
  case c1 =>
    intro j u hj
    match j, hj with
    | 0, hj => simp at hj; subst hj; simp [Addr.add]
  case c2 => intro u hu; simp at hu; subst hu; rfl
  intro v' w1 hown' hgrow
  go_wp2
  go_ret
  exact ⟨v', rfl, ownsRow_base hown' (by simp), below_grown hgrow⟩
theorem extended_some (g n cap : Nat) (xs : List Value) (b : Int) (w : World) (base : Nat) (hown : w.ownsRow base 5 1 (.slice (some ⟨g, 0, none⟩) n cap) n xs) (hn : n ≤ 1000) :
    Calls Try.prog 74 #[.slice (some ⟨g, 0, none⟩) n cap, .int .u8 b] w fun e w' => ∃ v', e = .returned v' ∧ w'.ownsRow w.heap.size 5 1 v' (n + 1) (xs ++ [.int .u8 b]) ∧ Below w.heap.size w w' := by
  obtain ⟨i0, hi, hz0, hz1, hz2⟩ := info_parts info5
  have hc : n ≤ cap := by
    rcases hown.2 with ⟨h, _⟩ | ⟨g', cap', cur, h, _, _, h2, _⟩
    · cases h
    · cases h; exact h2
  have HO := Lib.hid (hown.alloc (.cells #[.int .u8 b] 5))
  have HL := Lib.hid hown.1
  clear hown
  go_enter Try.func74, Try.ntmps74
  go_wp2_with (at_builtin; refine wpList_append_grows _ rfl (.tmp 10) (.tmp 12) 64 rfl 5 i0 (.int .u8 0) 1 1 Try.underlying64 hi hz0 hz1 hz2 rfl (by decide) (some ⟨g, 0, none⟩) n n xs rfl (fun h => by cases h) HL.out ?c3 ⟨w.heap.size, 0, none⟩ 1 1 [.int .u8 b] rfl rfl ?c1 ?c2 (by omega) ?c5 ?c6 ?_)
  case c3 =>
    intro a ha j u hu
    cases ha
    exact HO.out.cells (g := g) rfl j u hu
  case c1 =>
    intro j u hj
    match j, hj with
    | 0, hj => simp at hj; subst hj; simp [Addr.add]
  case c2 => intro u hu; simp at hu; subst hu; rfl
  case c5 => unfold maxLen; omega
  case c6 => omega
  intro v' w1 hown' hgrow
  go_wp2
  go_ret
  exact ⟨v', rfl, ownsRow_base hown' (by simp), below_grown hgrow⟩
theorem extended_any (v : Value) (n : Nat) (xs : List Value) (b : Int) (w : World) (base : Nat) (hown : w.ownsRow base 5 1 v n xs) (hn : n ≤ 1000) :
    Calls Try.prog 74 #[v, .int .u8 b] w fun e w' => ∃ v', e = .returned v' ∧ w'.ownsRow w.heap.size 5 1 v' (n + 1) (xs ++ [.int .u8 b]) ∧ Below w.heap.size w w' := by
  have h0 := hown
  rcases hown.2 with ⟨rfl, rfl⟩ | ⟨g, cap, cur, rfl, _⟩
  · have hx : xs = [] := List.eq_nil_of_length_eq_zero (by simpa using hown.1)
    subst hx
    exact extended_nil b w
  · exact extended_some g n cap xs b w base h0 hn
/-- What a row of bytes reads as, as a text. -/
theorem bytes_back {w : World} {base g n cap : Nat} {l : List UInt8} (hown : w.ownsRow base 5 1 (.slice (some ⟨g, 0, none⟩) n cap) n (byteCells l)) (hl : l.length = n) :
    (convert 64 9 (.slice (some ⟨g, 0, none⟩) n cap)).run Try.prog w = .ok (.string ⟨l.toArray⟩) w := by
  subst hl
  refine run_convert_bytes_back (P := Try.prog) _ 64 9 5 _ _ l Try.underlying64 Try.underlying5 Try.underlying9 ?_
  intro j hj
  refine hown.cells (g := g) rfl j _ ?_
  simp [byteCells, hj]
theorem row_form {w : World} {base n : Nat} {v : Value} {xs : List Value} (h : w.ownsRow base 5 1 v n xs) (hn : 0 < n) : ∃ g cap, v = .slice (some ⟨g, 0, none⟩) n cap := by
  rcases h.2 with ⟨_, h0⟩ | ⟨g, cap, cur, hv, _⟩
  · omega
  · exact ⟨g, cap, hv⟩
theorem or_byte {y : Nat} : bits .or .u8 ((y : Int) % 256) 128 = ((y % 128 + 128 : Nat) : Int) := by
  rw [Lib.u8_or128_any _ (by omega) (by omega)]
  omega
theorem row_next {x y : Nat} {pre : List UInt8} {v : Value} {w wr w1 : World} (h128 : 128 ≤ y) (hs : uvarint x = pre ++ uvarint y) (hb : Below w.heap.size w wr)
    (ho : w1.ownsRow wr.heap.size 5 1 v (pre.length + 1) (byteCells pre ++ [Value.int IntKind.u8 ((y : Int) % 128 + 128)])) :
    uvarint x = (pre ++ [(y % 128 + 128).toUInt8]) ++ uvarint (y / 128) ∧
      w1.ownsRow w.heap.size 5 1 v (pre ++ [(y % 128 + 128).toUInt8]).length (byteCells (pre ++ [(y % 128 + 128).toUInt8])) := by
  refine ⟨by rw [hs, Lib.uvarint_big h128]; simp, ?_⟩
  have ec : ((y % 128 + 128 : Nat) : Int) = (y : Int) % 128 + 128 := by omega
  rw [Lib.byteCells_snoc pre (by omega), List.length_append, List.length_singleton, ec]
  exact ownsRow_base ho hb.size
theorem row_last {x y B : Nat} {pre : List UInt8} {v : Value} {w1 : World} (h128 : ¬ 128 ≤ y) (hs : uvarint x = pre ++ uvarint y)
    (ho : w1.ownsRow B 5 1 v (pre.length + 1) (byteCells pre ++ [Value.int IntKind.u8 (y : Int)])) :
    ∃ g cap t, v = .slice (some ⟨g, 0, none⟩) (pre.length + 1) cap ∧ Hid (t = ByteArray.mk (uvarint x).toArray) ∧
      (convert 64 9 (.slice (some ⟨g, 0, none⟩) (pre.length + 1) cap)).run Try.prog w1 = .ok (.string t) w1 := by
  obtain ⟨g, cap, rfl⟩ := row_form ho (by omega)
  have e : uvarint x = pre ++ [y.toUInt8] := by rw [hs, Lib.uvarint_small (by omega)]
  refine ⟨g, cap, _, rfl, rfl, ?_⟩
  refine bytes_back (base := B) ?_ (by rw [e]; simp)
  rw [e, Lib.byteCells_snoc pre (by omega)]
  exact ho
theorem ret_string {a b : ByteArray} (h : a = b) : Ending.returned (.string a) = Ending.returned (.string b) := by rw [h]
theorem below_2 {w w1 w2 : World} (h : Below w.heap.size w w1) (h2 : Below w1.heap.size w1 w2) : Below w.heap.size w w2 := h.trans (h2.mono h.size)
set_option maxRecDepth 100000 in
theorem uint_any (x : Nat) (hx : x < 18446744073709551616) (w : World) :
    Calls Try.prog 51 #[.int .u64 x] w fun e w' => e = .returned (.string ⟨(uvarint x).toArray⟩) ∧ Below w.heap.size w w' := by
  have hlen := Lib.uvarint_length64 hx
  go_enter Try.func51, Try.ntmps51
  go_wp2
  go_loopw [0, 3] (fun vx vb wr => ∃ (y : Nat) (pre : List UInt8), vx = .int .u64 y ∧ y ≤ x ∧ Hid (uvarint x = pre ++ uvarint y) ∧ Hid (wr.ownsRow w.heap.size 5 1 vb pre.length (byteCells pre)) ∧ Below w.heap.size w wr)
    (fun vx _ _ => (intOf vx).toNat)
  case atStart => exact ⟨x, [], rfl, Nat.le_refl _, rfl, World.ownsRow_nil _ _ _ _, Below.refl _ _⟩
  case round =>
    obtain ⟨y, pre, rfl, hy, HS, HO, hb⟩ := hrel
    have hpl : pre.length ≤ 10 := by
      have h2 := congrArg List.length HS.out
      rw [List.length_append] at h2
      omega
    have hwb := hb.size
    by_cases h128 : 128 ≤ y
    · have hor := or_byte (y := y)
      go_wp2_with (go_at_call 74; refine (extended_any _ _ _ _ _ _ HO.out (by omega)).mono ?_; rintro e w1 ⟨v', rfl, hown', hb'⟩)
      have hn := row_next h128 HS.out hb hown'
      have HN1 := Lib.hid hn.1
      have HN2 := Lib.hid hn.2
      clear hn hown'
      go_roundw
      case rel => exact ⟨y / 128, _, by go_num, by omega, HN1, HN2, below_2 hb hb'⟩
      case measure => simp [intOf]; omega
    · go_wp2_with (go_at_call 74; refine (extended_any _ _ _ _ _ _ HO.out (by omega)).mono ?_; rintro e w1 ⟨v', rfl, hown', hb'⟩; obtain ⟨g, cap, t, rfl, ht, hconv⟩ := row_last h128 HS.out hown'; clear hown')
      go_ret
      exact ⟨ret_string ht.out, below_2 hb hb'⟩

/-! ### the reference's varint -/

theorem byte_back (z : Nat) (hz : z < 256) (wr : World) : ∃ c : ByteArray, c.data.toList = [z.toUInt8] ∧
    (convert 64 9 (.slice (some ⟨wr.heap.size, 0, none⟩) 1 1)).run Try.prog (wr.alloc (.cells #[.int .u8 (z : Int)] 5)) = .ok (.string c) (wr.alloc (.cells #[.int .u8 (z : Int)] 5)) := by
  refine ⟨⟨#[z.toUInt8]⟩, rfl, run_convert_bytes_back (P := Try.prog) _ 64 9 5 _ 1 [z.toUInt8] Try.underlying64 Try.underlying5 Try.underlying9 ?_⟩
  intro j hj
  have hj0 : j = 0 := by simpa using hj
  subst hj0
  rw [show ([z.toUInt8][0]'hj).toNat = z from u8_small hz]
  rw [show (Addr.add ⟨wr.heap.size, 0, none⟩ 0) = ⟨wr.heap.size, 0, none⟩ from rfl, World.cell?_alloc_at _ _ _ _ (by simp)]
  simp
theorem append_list (c t : ByteArray) : (c ++ t).data.toList = c.data.toList ++ t.data.toList := by simp
theorem size_len (s : ByteArray) : s.size = s.data.toList.length := by simp
theorem text_more {x y : Nat} {t c : ByteArray} (h128 : 128 ≤ y) (hc : c.data.toList = [(y % 128 + 128).toUInt8]) (h : t.data.toList ++ uvarint y = uvarint x) :
    (t ++ c).data.toList ++ uvarint (y / 128) = uvarint x := by
  rw [← h, append_list, hc, Lib.uvarint_big h128]
  simp
theorem text_last {x y : Nat} {t c : ByteArray} (h128 : ¬ 128 ≤ y) (hc : c.data.toList = [y.toUInt8]) (h : t.data.toList ++ uvarint y = uvarint x) :
    t ++ c = ⟨(uvarint x).toArray⟩ := by
  refine WideShapes.bytes_inj ?_
  rw [← h, append_list, hc, Lib.uvarint_small (by omega)]
set_option maxRecDepth 100000 in
theorem ruint_any (x : Nat) (hx : x < 18446744073709551616) (w : World) :
    Calls Try.prog 54 #[.int .u64 x] w fun e w' => e = .returned (.string ⟨(uvarint x).toArray⟩) ∧ Below w.heap.size w w' := by
  have hlen := Lib.uvarint_length64 hx
  go_enter Try.func54, Try.ntmps54
  go_wp2
  go_loopw [0, 3] (fun vx vb wr => ∃ (y : Nat) (t : ByteArray), vx = .int .u64 y ∧ y ≤ x ∧ Hid (t.data.toList ++ uvarint y = uvarint x) ∧ vb = .string t ∧ Below w.heap.size w wr)
    (fun vx _ _ => (intOf vx).toNat)
  case atStart => exact ⟨x, ⟨#[]⟩, rfl, Nat.le_refl _, rfl, rfl, Below.refl _ _⟩
  case round =>
    obtain ⟨y, t, rfl, hy, HS, rfl, hb⟩ := hrel
    have hpl : t.size ≤ 10 := by
      have h2 := congrArg List.length HS.out
      rw [List.length_append, ← size_len] at h2
      omega
    have hwb := hb.size
    by_cases h128 : 128 ≤ y
    · obtain ⟨c, hc, hback⟩ := byte_back (y % 128 + 128) (by omega) wr
      rw [show ((y % 128 + 128 : Nat) : Int) = (y : Int) % 128 + 128 by omega] at hback
      have HN := Lib.hid (text_more h128 hc HS.out)
      have hcs : c.size ≤ 1 := by rw [size_len, hc]; exact Nat.le_refl _
      clear hc
      go_wp2
      go_roundw
      case rel => exact ⟨y / 128, t ++ c, by go_num, by omega, HN, rfl, hb.alloc hb.size _⟩
      case measure => simp [intOf]; omega
    · obtain ⟨c, hc, hback⟩ := byte_back y (by omega) wr
      have HN := Lib.hid (text_last h128 hc HS.out)
      have hcs : c.size ≤ 1 := by rw [size_len, hc]; exact Nat.le_refl _
      clear hc
      go_wp2
      go_ret
      exact ⟨ret_string HN.out, hb.alloc hb.size _⟩
end Go.Proofs.Ytieloegadhgipaa.W
namespace Go.Proofs.Ytieloegadhgipaa.W
open Go.RowKit
open Go.Lib (uvarint zigzag unzigzag byteCells)

theorem ret_int {k : IntKind} {a b : Int} (h : a = b) : Ending.returned (.int k a) = .returned (.int k b) := by rw [h]
set_option maxRecDepth 100000 in
theorem zigzag_any (n : Int) (h0 : -9223372036854775808 ≤ n) (h1 : n ≤ 9223372036854775807) (w : World) :
    Calls Try.prog 91 #[.int .i64 n] w fun e w' => e = .returned (.int .u64 (zigzag n : Nat)) ∧ w = w' := by
  by_cases hn : n < 0
  · have hz := Lib.zigzag_neg h0 hn
    generalize hZ : ((zigzag n : Nat) : Int) = z at hz
    clear hZ
    go_enter Try.func91, Try.ntmps91
    go_wp2
    go_ret
    exact ⟨rfl, rfl⟩
  · have hz := Lib.zigzag_nonneg (x := n) (by omega)
    rw [hz]
    clear hz
    go_enter Try.func91, Try.ntmps91
    go_wp2
    go_ret
    exact ⟨ret_int (by omega), rfl⟩
set_option maxRecDepth 100000 in
theorem fold_any (n : Int) (h0 : -9223372036854775808 ≤ n) (h1 : n ≤ 9223372036854775807) (w : World) :
    Calls Try.prog 92 #[.int .i64 n] w fun e w' => e = .returned (.int .u64 (zigzag n : Nat)) ∧ w = w' := by
  have HZ : Hid (((zigzag n : Nat) : Int) = if 0 ≤ n then 2 * n else -2 * n - 1) := by
    show _ = _
    unfold zigzag
    split <;> omega
  by_cases hn : n < 0
  · go_enter Try.func92, Try.ntmps92
    go_wp2
    go_ret
    exact ⟨ret_int (by have := HZ.out; rw [if_neg (by omega)] at this; omega), rfl⟩
  · go_enter Try.func92, Try.ntmps92
    go_wp2
    go_ret
    exact ⟨ret_int (by have := HZ.out; rw [if_pos (by omega)] at this; omega), rfl⟩
theorem unz_int {u : Nat} : unzigzag u = if u % 2 = 0 then (u : Int) / 2 else -((u : Int) / 2) - 1 := by
  unfold unzigzag
  split <;> omega
set_option maxRecDepth 100000 in
theorem unzigzag_any (u : Nat) (hu : u < 18446744073709551616) (w : World) :
    Calls Try.prog 100 #[.int .u64 u] w fun e w' => e = .returned (.int .i64 (unzigzag u)) ∧ w = w' := by
  have hand := Lib.u64_and1 (u : Int) (by omega) (by omega)
  by_cases hodd : u % 2 = 0
  · have hand0 : bits .and .u64 (u : Int) 1 = 0 := by rw [hand]; omega
    rw [unz_int, if_pos hodd]
    clear hand
    go_enter Try.func100, Try.ntmps100
    go_wp2
    go_ret
    exact ⟨rfl, rfl⟩
  · have hand1 : bits .and .u64 (u : Int) 1 = 1 := by rw [hand]; omega
    have hnot : bits .xor .i64 (-1) ((u : Int) / 2) = -((u : Int) / 2) - 1 := by
      have h3 := Lib.i64_not (u / 2) (by omega)
      rw [show (((u / 2 : Nat) : Int)) = (u : Int) / 2 by omega] at h3
      exact h3
    rw [unz_int, if_neg hodd]
    clear hand
    go_enter Try.func100, Try.ntmps100
    go_wp2
    go_ret
    exact ⟨rfl, rfl⟩
set_option maxRecDepth 100000 in
theorem unfold_any (u : Nat) (hu : u < 18446744073709551616) (w : World) :
    Calls Try.prog 90 #[.int .u64 u] w fun e w' => e = .returned (.int .i64 (unzigzag u)) ∧ w = w' := by
  by_cases hodd : u % 2 = 0
  · have hm : ((u : Int) % 2 == 1) = false := beq_eq_false_iff_ne.2 (by omega)
    rw [unz_int, if_pos hodd]
    go_enter Try.func90, Try.ntmps90
    go_wp2
    go_ret
    exact ⟨rfl, rfl⟩
  · have hm : ((u : Int) % 2 == 1) = true := beq_iff_eq.2 (by omega)
    rw [unz_int, if_neg hodd]
    go_enter Try.func90, Try.ntmps90
    go_wp2
    go_ret
    exact ⟨rfl, rfl⟩

/-- the encoding of an integer -/
def intText (n : Int) : List UInt8 := uvarint (zigzag n)
theorem int_any (n : Int) (h0 : -9223372036854775808 ≤ n) (h1 : n ≤ 9223372036854775807) (w : World) :
    Calls Try.prog 75 #[.int .i64 n] w fun e w' => e = .returned (.string ⟨(intText n).toArray⟩) ∧ Below w.heap.size w w' := by
  have hu := uint_any (zigzag n) (Lib.zigzag_lt h0 h1)
  go_enter Try.func75, Try.ntmps75
  go_wp2_with (first | (go_at_call 91; refine (zigzag_any _ h0 h1 _).mono ?_; rintro e w' ⟨rfl, rfl⟩) | (go_at_call 51; refine (hu _).mono ?_; rintro e w' ⟨rfl, hb⟩))
  go_ret
  exact ⟨rfl, hb⟩
theorem rint_any (n : Int) (h0 : -9223372036854775808 ≤ n) (h1 : n ≤ 9223372036854775807) (w : World) :
    Calls Try.prog 76 #[.int .i64 n] w fun e w' => e = .returned (.string ⟨(intText n).toArray⟩) ∧ Below w.heap.size w w' := by
  have hu := ruint_any (zigzag n) (Lib.zigzag_lt h0 h1)
  go_enter Try.func76, Try.ntmps76
  go_wp2_with (first | (go_at_call 92; refine (fold_any _ h0 h1 _).mono ?_; rintro e w' ⟨rfl, rfl⟩) | (go_at_call 54; refine (hu _).mono ?_; rintro e w' ⟨rfl, hb⟩))
  go_ret
  exact ⟨rfl, hb⟩
/-- the encoding of a truth value -/
def boolText (b : Bool) : List UInt8 := if b then [1] else [0]
theorem text_eq (s : ByteArray) : ByteArray.mk (uvarint s.size).toArray ++ s = ⟨(text s.data.toList).toArray⟩ := by
  refine WideShapes.bytes_inj ?_
  rw [append_list, text, ← size_len]
theorem uv_size {x : Nat} (hx : x < 18446744073709551616) : (ByteArray.mk (uvarint x).toArray).size ≤ 10 := by
  rw [size_len]
  exact Lib.uvarint_length64 hx
set_option maxRecDepth 100000 in
theorem text_any (s : ByteArray) (hs : s.size ≤ 1000000000000) (w : World) :
    Calls Try.prog 52 #[.string s] w fun e w' => e = .returned (.string ⟨(text s.data.toList).toArray⟩) ∧ Below w.heap.size w w' := by
  have hz := uv_size (x := s.size) (by omega)
  have HT := Lib.hid (text_eq s)
  have hu := uint_any s.size (by omega)
  generalize ByteArray.mk (uvarint s.size).toArray = t at hz HT hu
  go_enter Try.func52, Try.ntmps52
  go_wp2_with (go_at_call 51; refine (hu _).mono ?_; rintro e w' ⟨rfl, hb⟩)
  go_ret
  exact ⟨ret_string HT.out, hb⟩
set_option maxRecDepth 100000 in
theorem rtext_any (s : ByteArray) (hs : s.size ≤ 1000000000000) (w : World) :
    Calls Try.prog 55 #[.string s] w fun e w' => e = .returned (.string ⟨(text s.data.toList).toArray⟩) ∧ Below w.heap.size w w' := by
  have hz := uv_size (x := s.size) (by omega)
  have HT := Lib.hid (text_eq s)
  have hu := ruint_any s.size (by omega)
  generalize ByteArray.mk (uvarint s.size).toArray = t at hz HT hu
  go_enter Try.func55, Try.ntmps55
  go_wp2_with (go_at_call 54; refine (hu _).mono ?_; rintro e w' ⟨rfl, hb⟩)
  go_ret
  exact ⟨ret_string HT.out, hb⟩
end Go.Proofs.Ytieloegadhgipaa.W
namespace Go.Proofs.Ytieloegadhgipaa.W
open Go.RowKit

theorem ret_3 {a b c a' b' c' : Int} (h1 : a = a') (h2 : b = b') (h3 : c = c') :
    Ending.returned (.tuple #[.int .u64 a, .int .i64 b, .int .i64 c]) = .returned (.tuple #[.int .u64 a', .int .i64 b', .int .i64 c']) := by rw [h1, h2, h3]
theorem take_out (s : ByteArray) (at_ : Int) (h0 : -9223372036854775808 ≤ at_) (h1 : at_ ≤ 9223372036854775807) (ho : outside s.data.toList at_ = true) (w : World) :
    Calls Try.prog 67 #[.string s, .int .i64 at_] w fun e w' => e = .returned (.tuple #[.int .u64 0, .int .i64 0, .int .i64 1]) ∧ w = w' := by
  have h := outside_true ho
  rw [← size_len] at h
  clear ho
  by_cases h2 : at_ < 0
  · clear h
    go_enter Try.func67, Try.ntmps67
    go_wp2
    go_ret3
    exact ⟨rfl, rfl⟩
  · have h3 : (s.size : Int) < at_ := by omega
    clear h
    go_enter Try.func67, Try.ntmps67
    go_wp2
    go_ret3
    exact ⟨rfl, rfl⟩
theorem two_seven (i : Nat) : (2 : Nat) ^ (7 * i) = 128 ^ i := by rw [Nat.pow_mul]
/-- A group of seven bits, put above what is there. -/
theorem or_group {acc i : Nat} (b : UInt8) (hi : i ≤ 9) (ha : acc < 128 ^ i) (h9 : i = 9 → b.toNat % 128 ≤ 1) :
    bits .or .u64 (acc : Int) (IntKind.u64.wrap (IntKind.u64.wrap (bits .and .u8 (b.toNat : Int) 127) * 2 ^ (7 * i))) = ((acc + b.toNat % 128 * 128 ^ i : Nat) : Int) := by
  have hb := b.toNat_lt
  have hac : acc < 9223372036854775808 := Nat.lt_of_lt_of_le ha (Nat.le_trans (Nat.pow_le_pow_right (by decide) hi) (Nat.le_of_eq pow_nine))
  have hlt : b.toNat % 128 * 128 ^ i < 18446744073709551616 := by
    by_cases h : i = 9
    · have h1 := h9 h
      subst h
      rw [pow_nine]
      omega
    · have h1 := pow_le (i := i) (by omega)
      rw [pow_next] at h1
      have h2 : b.toNat % 128 * 128 ^ i ≤ 128 * 128 ^ i := Nat.mul_le_mul_right _ (by omega)
      omega
  have hm : (2 : Int) ^ (7 * i) = ((128 ^ i : Nat) : Int) := by rw [← two_seven]; simp
  have h1 : IntKind.u64.wrap (bits .and .u8 (b.toNat : Int) 127) = ((b.toNat % 128 : Nat) : Int) := by
    rw [u8_and127 _ (by omega) (by omega), u64_wrap_id _ (by omega) (by omega)]
    omega
  have h2 : ((b.toNat % 128 : Nat) : Int) * ((128 ^ i : Nat) : Int) = ((b.toNat % 128 * 128 ^ i : Nat) : Int) := by rw [Int.natCast_mul]
  rw [h1, hm, h2, u64_wrap_id _ (by omega) (by omega)]
  have h3 := bits_join_low .u64 64 (by decide) wraps_u64 (7 * i) (acc : Int) ((b.toNat % 128 * 128 ^ i : Nat) : Int) (by omega) (by rw [hm]; omega) (by omega) (by omega) (by rw [hm, ← h2]; simp) (by rw [show ((2 : Int) ^ 64) = 18446744073709551616 by decide]; omega)
  rw [h3, Int.natCast_add]
theorem list_get {s : ByteArray} {k : Nat} (h : k < s.size) : s.data.toList[k]'(by rw [← size_len]; exact h) = s[k] := rfl
theorem drop_cons {s : ByteArray} {k : Nat} (h : k < s.size) : s.data.toList.drop k = s[k] :: s.data.toList.drop (k + 1) := by
  rw [List.drop_eq_getElem_cons (by rw [← size_len]; exact h), list_get h]
theorem drop_end {s : ByteArray} {k : Nat} (h : ¬ k < s.size) : s.data.toList.drop k = [] := by
  rw [List.drop_of_length_le (by rw [← size_len]; omega)]
/-- what TakeUint gives for the bytes from an offset on -/
def R (a : Nat) (d : Nat × Nat × Nat) : Ending := .returned (.tuple #[.int .u64 (d.1 : Int), .int .i64 (if d.2.2 = 0 then (a : Int) + (d.2.1 : Int) else 0), .int .i64 (d.2.2 : Int)])
theorem R_bad {a : Nat} {d : Nat × Nat × Nat} (h : d = (0, 0, 5)) : Ending.returned (.tuple #[.int .u64 0, .int .i64 0, .int .i64 5]) = R a d := by subst h; rfl
theorem R_cut {a : Nat} {d : Nat × Nat × Nat} (h : d = (0, 0, 6)) : Ending.returned (.tuple #[.int .u64 0, .int .i64 0, .int .i64 6]) = R a d := by subst h; rfl
theorem R_ok {a v c : Nat} {d : Nat × Nat × Nat} (h : d = (v, c, 0)) {x y : Int} (hx : x = v) (hy : y = (a : Int) + c) : Ending.returned (.tuple #[.int .u64 x, .int .i64 y, .int .i64 0]) = R a d := by
  subst h hx hy; rfl
set_option maxHeartbeats 1000000 in
set_option maxRecDepth 100000 in
theorem take_in (s : ByteArray) (a : Nat) (hs : s.size ≤ 9223372036854775807) (ha : a ≤ s.size) (w : World) :
    Calls Try.prog 67 #[.string s, .int .i64 a] w fun e w' => e = R a (du 0 0 (s.data.toList.drop a)) ∧ w = w' := by
  have hneg : decide ((a : Int) < 0) = false := by simp
  have hout : decide (s.size < a) = false := by simpa using ha
  go_enter Try.func67, Try.ntmps67
  go_wp2
  go_loop [7, 8] (fun vv vn => ∃ p acc : Nat, vn = .int .i64 p ∧ a ≤ p ∧ p ≤ a + 9 ∧ p ≤ s.size ∧ vv = .int .u64 acc ∧ Hid (acc < 128 ^ (p - a) ∧ du 0 0 (s.data.toList.drop a) = du (p - a) acc (s.data.toList.drop p))) (fun _ vn => (s.size + 1 - (intOf vn).toNat))
  case atStart => exact ⟨a, 0, rfl, by omega, by omega, by omega, rfl, by rw [Nat.sub_self]; exact ⟨by decide, rfl⟩⟩
  case round =>
    obtain ⟨p, acc, rfl, h1, h2, h3, rfl, HH⟩ := hrel
    by_cases hlt : p < s.size
    · have hc := Lib.hid (drop_cons hlt)
      have hbb := s[p].toNat_lt
      cases h9 : ((p : Int) - a == 9)
      · have h9' : p ≤ a + 8 := by have := beq_eq_false_iff_ne.1 h9; omega
        cases hz : ((s[p].toNat : Int) == 0)
        · have hz' : 0 < s[p].toNat := by have := beq_eq_false_iff_ne.1 hz; omega
          have HO := Lib.hid (or_group s[p] (i := p - a) (acc := acc) (by omega) HH.out.1 (by omega))
          by_cases hb : (s[p].toNat : Int) < 128
          · have HB : Hid (du 0 0 (s.data.toList.drop a) = (acc + s[p].toNat * 128 ^ (p - a), p - a + 1, 0)) := HH.out.2.trans (hc.out ▸ du_last (by omega) (by omega))
            go_wp2
            all_goals
              go_ret3
              exact ⟨R_ok HB.out (HO.out.trans (by rw [Nat.mod_eq_of_lt (by omega)])) (by omega), rfl⟩
          · have HB : Hid (du 0 0 (s.data.toList.drop a) = du (p - a + 1) (acc + s[p].toNat % 128 * 128 ^ (p - a)) (s.data.toList.drop (p + 1))) := HH.out.2.trans (hc.out ▸ du_more (by omega) (by omega))
            have HL := Lib.hid (next_lt HH.out.1 (Nat.mod_lt s[p].toNat (by decide : 0 < 128)))
            go_wp2
            all_goals
              go_round
              case rel => exact ⟨p + 1, _, by go_num, by omega, by omega, by omega, congrArg _ HO.out, by rw [show p + 1 - a = p - a + 1 by omega]; exact ⟨HL.out, HB.out⟩⟩
              case measure => simp [intOf]; omega
        · have hz' : s[p].toNat ≤ 0 := by have := beq_iff_eq.1 hz; omega
          by_cases h0 : a < p
          · have HB : Hid (du 0 0 (s.data.toList.drop a) = (0, 0, 5)) := HH.out.2.trans (hc.out ▸ du_bad (by omega))
            go_wp2
            all_goals
              go_ret3
              exact ⟨R_bad HB.out, rfl⟩
          · have HO := Lib.hid (or_group s[p] (i := p - a) (acc := acc) (by omega) HH.out.1 (by omega))
            have HB : Hid (du 0 0 (s.data.toList.drop a) = (acc + s[p].toNat * 128 ^ (p - a), p - a + 1, 0)) := HH.out.2.trans (hc.out ▸ du_last (by omega) (by omega))
            go_wp2
            all_goals
              go_ret3
              exact ⟨R_ok HB.out (HO.out.trans (by rw [Nat.mod_eq_of_lt (by omega)])) (by omega), rfl⟩
      · have h9' : a + 9 ≤ p := by have := beq_iff_eq.1 h9; omega
        by_cases hone : 1 < (s[p].toNat : Int)
        · have HB : Hid (du 0 0 (s.data.toList.drop a) = (0, 0, 5)) := HH.out.2.trans (hc.out ▸ du_bad (by omega))
          go_wp2
          all_goals
            go_ret3
            exact ⟨R_bad HB.out, rfl⟩
        · have h0 : a < p := by omega
          cases hz : ((s[p].toNat : Int) == 0)
          · have hz' : 0 < s[p].toNat := by have := beq_eq_false_iff_ne.1 hz; omega
            have hb : (s[p].toNat : Int) < 128 := by omega
            have HO := Lib.hid (or_group s[p] (i := p - a) (acc := acc) (by omega) HH.out.1 (by omega))
            have HB : Hid (du 0 0 (s.data.toList.drop a) = (acc + s[p].toNat * 128 ^ (p - a), p - a + 1, 0)) := HH.out.2.trans (hc.out ▸ du_last (by omega) (by omega))
            go_wp2
            all_goals
              go_ret3
              exact ⟨R_ok HB.out (HO.out.trans (by rw [Nat.mod_eq_of_lt (by omega)])) (by omega), rfl⟩
          · have hz' : s[p].toNat ≤ 0 := by have := beq_iff_eq.1 hz; omega
            have HB : Hid (du 0 0 (s.data.toList.drop a) = (0, 0, 5)) := HH.out.2.trans (hc.out ▸ du_bad (by omega))
            go_wp2
            all_goals
              go_ret3
              exact ⟨R_bad HB.out, rfl⟩
    · have HB : Hid (du 0 0 (s.data.toList.drop a) = (0, 0, 6)) := HH.out.2.trans (drop_end hlt ▸ rfl)
      go_wp2
      go_ret3
      exact ⟨R_cut HB.out, rfl⟩
end Go.Proofs.Ytieloegadhgipaa.W
namespace Go.Proofs.Ytieloegadhgipaa.W
open Go.RowKit

theorem rtake_out (s : ByteArray) (at_ : Int) (h0 : -9223372036854775808 ≤ at_) (h1 : at_ ≤ 9223372036854775807) (ho : outside s.data.toList at_ = true) (w : World) :
    Calls Try.prog 70 #[.string s, .int .i64 at_] w fun e w' => e = .returned (.tuple #[.int .u64 0, .int .i64 0, .int .i64 1]) ∧ w = w' := by
  have h := outside_true ho
  rw [← size_len] at h
  clear ho
  by_cases h2 : at_ < 0
  · clear h
    go_enter Try.func70, Try.ntmps70
    go_wp2
    go_ret3
    exact ⟨rfl, rfl⟩
  · have h3 : (s.size : Int) < at_ := by omega
    clear h
    go_enter Try.func70, Try.ntmps70
    go_wp2
    go_ret3
    exact ⟨rfl, rfl⟩
/-- A group of seven bits, added above what is there. -/
theorem add_group {acc i : Nat} (b : UInt8) (hi : i ≤ 9) (ha : acc < 128 ^ i) (h9 : i = 9 → b.toNat % 128 ≤ 1) {W : Int} (hW : W = ((128 ^ i : Nat) : Int)) :
    0 ≤ (b.toNat : Int) % 128 * W ∧ (b.toNat : Int) % 128 * W < 18446744073709551616 ∧ (acc : Int) + (b.toNat : Int) % 128 * W < 18446744073709551616 ∧
      (acc : Int) + (b.toNat : Int) % 128 * W = ((acc + b.toNat % 128 * 128 ^ i : Nat) : Int) := by
  have e : (b.toNat : Int) % 128 * W = ((b.toNat % 128 * 128 ^ i : Nat) : Int) := by
    rw [hW, Int.natCast_mul]; rfl
  rw [e]
  have hlt : acc + b.toNat % 128 * 128 ^ i < 18446744073709551616 := by
    by_cases h : i = 9
    · have h1 := h9 h
      subst h
      rw [pow_nine] at *
      omega
    · have h1 := next_lt ha (Nat.mod_lt b.toNat (by decide : 0 < 128))
      have h2 := pow_le (i := i) (by omega)
      omega
  omega
theorem weight_next {k : Nat} {W : Int} (hk : k ≤ 8) (hW : W = ((128 ^ k : Nat) : Int)) : W * 128 ≤ 9223372036854775808 ∧ W * 128 = ((128 ^ (k + 1) : Nat) : Int) := by
  have h := pow_le hk
  rw [pow_next] at h ⊢
  rw [hW]
  omega
set_option maxHeartbeats 1000000 in
set_option maxRecDepth 100000 in
theorem rtake_in (s : ByteArray) (a : Nat) (hs : s.size ≤ 1000000000000) (ha : a ≤ s.size) (w : World) :
    Calls Try.prog 70 #[.string s, .int .i64 a] w fun e w' => e = R a (du 0 0 (s.data.toList.drop a)) ∧ w = w' := by
  have hneg : decide ((a : Int) < 0) = false := by simp
  have hout : decide (s.size < a) = false := by simpa using ha
  go_enter Try.func70, Try.ntmps70
  go_wp2
  go_loop [7, 8, 9] (fun vv vw vk => ∃ (k acc : Nat) (W : Int), vk = .int .i64 k ∧ k ≤ 9 ∧ a + k ≤ s.size ∧ vv = .int .u64 acc ∧ vw = .int .u64 W ∧ 0 ≤ W ∧ W ≤ 9223372036854775808 ∧ Hid (W = ((128 ^ k : Nat) : Int)) ∧ Hid (acc < 128 ^ k ∧ du 0 0 (s.data.toList.drop a) = du k acc (s.data.toList.drop (a + k)))) (fun _ _ vk => (10 - (intOf vk).toNat))
  case atStart => exact ⟨0, 0, 1, rfl, by omega, by omega, rfl, rfl, by omega, by omega, rfl, by decide, rfl⟩
  case round =>
    obtain ⟨k, acc, W, rfl, h1, h2, rfl, rfl, hW0, hW1, HW, HH⟩ := hrel
    by_cases hlt : a + k < s.size
    · have hc := Lib.hid (drop_cons hlt)
      have hbb := s[a + k].toNat_lt
      cases h9 : ((k : Int) == 9)
      · have h9' : k ≤ 8 := by have := beq_eq_false_iff_ne.1 h9; omega
        cases hz : ((s[a + k].toNat : Int) == 0)
        · have hz' : 0 < s[a + k].toNat := by have := beq_eq_false_iff_ne.1 hz; omega
          by_cases hb : (s[a + k].toNat : Int) < 128
          · have HB : Hid (du 0 0 (s.data.toList.drop a) = (acc + s[a + k].toNat * 128 ^ k, k + 1, 0)) := HH.out.2.trans (hc.out ▸ du_last (by omega) (by omega))
            obtain ⟨o1, o2, o3, o4⟩ := add_group s[a + k] (i := k) (acc := acc) (by omega) HH.out.1 (by omega) HW.out
            have HO := Lib.hid o4
            clear o4
            go_wp2
            all_goals
              go_ret3
              exact ⟨R_ok HB.out (HO.out.trans (by rw [Nat.mod_eq_of_lt (by omega)])) (by omega), rfl⟩
          · have HB : Hid (du 0 0 (s.data.toList.drop a) = du (k + 1) (acc + s[a + k].toNat % 128 * 128 ^ k) (s.data.toList.drop (a + (k + 1)))) := HH.out.2.trans (hc.out ▸ du_more (by omega) (by omega))
            have HL := Lib.hid (next_lt HH.out.1 (Nat.mod_lt s[a + k].toNat (by decide : 0 < 128)))
            have hW2 := weight_next (by omega) HW.out
            have HW2 := Lib.hid hW2.2
            have hW3 := hW2.1
            clear hW2
            obtain ⟨o1, o2, o3, o4⟩ := add_group s[a + k] (i := k) (acc := acc) (by omega) HH.out.1 (by omega) HW.out
            have HO := Lib.hid o4
            clear o4
            go_wp2
            all_goals
              go_round
              case rel => exact ⟨k + 1, _, W * 128, by go_num, by omega, by omega, congrArg _ HO.out, rfl, by omega, by omega, HW2, HL.out, HB.out⟩
              case measure => simp [intOf]; omega
        · have hz' : s[a + k].toNat ≤ 0 := by have := beq_iff_eq.1 hz; omega
          by_cases h0 : 0 < (k : Int)
          · have HB : Hid (du 0 0 (s.data.toList.drop a) = (0, 0, 5)) := HH.out.2.trans (hc.out ▸ du_bad (by omega))
            go_wp2
            all_goals
              go_ret3
              exact ⟨R_bad HB.out, rfl⟩
          · have HB : Hid (du 0 0 (s.data.toList.drop a) = (acc + s[a + k].toNat * 128 ^ k, k + 1, 0)) := HH.out.2.trans (hc.out ▸ du_last (by omega) (by omega))
            obtain ⟨o1, o2, o3, o4⟩ := add_group s[a + k] (i := k) (acc := acc) (by omega) HH.out.1 (by omega) HW.out
            have HO := Lib.hid o4
            clear o4
            go_wp2
            all_goals
              go_ret3
              exact ⟨R_ok HB.out (HO.out.trans (by rw [Nat.mod_eq_of_lt (by omega)])) (by omega), rfl⟩
      · have h9' : 9 ≤ k := by have := beq_iff_eq.1 h9; omega
        by_cases hone : 1 < (s[a + k].toNat : Int)
        · have HB : Hid (du 0 0 (s.data.toList.drop a) = (0, 0, 5)) := HH.out.2.trans (hc.out ▸ du_bad (by omega))
          go_wp2
          all_goals
            go_ret3
            exact ⟨R_bad HB.out, rfl⟩
        · have h0 : 0 < (k : Int) := by omega
          cases hz : ((s[a + k].toNat : Int) == 0)
          · have hz' : 0 < s[a + k].toNat := by have := beq_eq_false_iff_ne.1 hz; omega
            have hb : (s[a + k].toNat : Int) < 128 := by omega
            have HB : Hid (du 0 0 (s.data.toList.drop a) = (acc + s[a + k].toNat * 128 ^ k, k + 1, 0)) := HH.out.2.trans (hc.out ▸ du_last (by omega) (by omega))
            obtain ⟨o1, o2, o3, o4⟩ := add_group s[a + k] (i := k) (acc := acc) (by omega) HH.out.1 (by omega) HW.out
            have HO := Lib.hid o4
            clear o4
            go_wp2
            all_goals
              go_ret3
              exact ⟨R_ok HB.out (HO.out.trans (by rw [Nat.mod_eq_of_lt (by omega)])) (by omega), rfl⟩
          · have hz' : s[a + k].toNat ≤ 0 := by have := beq_iff_eq.1 hz; omega
            have HB : Hid (du 0 0 (s.data.toList.drop a) = (0, 0, 5)) := HH.out.2.trans (hc.out ▸ du_bad (by omega))
            go_wp2
            all_goals
              go_ret3
              exact ⟨R_bad HB.out, rfl⟩
    · have HB : Hid (du 0 0 (s.data.toList.drop a) = (0, 0, 6)) := HH.out.2.trans (drop_end hlt ▸ rfl)
      go_wp2
      go_ret3
      exact ⟨R_cut HB.out, rfl⟩
end Go.Proofs.Ytieloegadhgipaa.W
namespace Go.Proofs.Ytieloegadhgipaa.W
open Go.RowKit
open Go.Lib (unzigzag)

theorem R_is {l : List UInt8} {a : Nat} (ha : a ≤ l.length) : R a (du 0 0 (l.drop a)) = .returned (.tuple #[.int .u64 (tV l a), .int .i64 (tN l a), .int .i64 (tE l a)]) := by
  have ho : outside l a = false := by
    unfold outside
    exact decide_eq_false (by omega)
  have h := tE_in ho
  have hf : from_ l a = l.drop a := rfl
  rw [hf] at h
  unfold R tN
  rw [h.1, h.2, hf]
  by_cases hz : (du 0 0 (l.drop a)).2.2 = 0
  · rw [if_pos hz, if_pos (by omega)]
  · rw [if_neg hz, if_neg (by omega)]
theorem take_any (s : ByteArray) (at_ : Int) (h0 : -9223372036854775808 ≤ at_) (h1 : at_ ≤ 9223372036854775807) (hs : s.size ≤ 9223372036854775807) (w : World) :
    Calls Try.prog 67 #[.string s, .int .i64 at_] w fun e w' => e = .returned (.tuple #[.int .u64 (tV s.data.toList at_), .int .i64 (tN s.data.toList at_), .int .i64 (tE s.data.toList at_)]) ∧ w = w' := by
  cases ho : outside s.data.toList at_
  · have hb := outside_false ho
    rw [← size_len] at hb
    obtain ⟨a, rfl⟩ := Int.eq_ofNat_of_zero_le hb.1
    rw [← R_is (by rw [← size_len]; omega)]
    exact take_in s a hs (by omega) w
  · have h := tE_out ho
    rw [h.1, h.2.1, h.2.2]
    exact take_out s at_ h0 h1 ho w
theorem rtake_any (s : ByteArray) (at_ : Int) (h0 : -9223372036854775808 ≤ at_) (h1 : at_ ≤ 9223372036854775807) (hs : s.size ≤ 1000000000000) (w : World) :
    Calls Try.prog 70 #[.string s, .int .i64 at_] w fun e w' => e = .returned (.tuple #[.int .u64 (tV s.data.toList at_), .int .i64 (tN s.data.toList at_), .int .i64 (tE s.data.toList at_)]) ∧ w = w' := by
  cases ho : outside s.data.toList at_
  · have hb := outside_false ho
    rw [← size_len] at hb
    obtain ⟨a, rfl⟩ := Int.eq_ofNat_of_zero_le hb.1
    rw [← R_is (by rw [← size_len]; omega)]
    exact rtake_in s a hs (by omega) w
  · have h := tE_out ho
    rw [h.1, h.2.1, h.2.2]
    exact rtake_out s at_ h0 h1 ho w

/-- TakeInt: the value -/
def iV (l : List UInt8) (at_ : Int) : Int := unzigzag (tV l at_).toNat
theorem iV_err {l : List UInt8} {at_ : Int} (h : tE l at_ ≠ 0) : iV l at_ = 0 := by
  unfold iV
  rw [(t_err h).1]
  rfl
theorem unz_call (u : Int) (h0 : 0 ≤ u) (h1 : u < 18446744073709551616) (w : World) :
    Calls Try.prog 100 #[.int .u64 u] w fun e w' => e = .returned (.int .i64 (unzigzag u.toNat)) ∧ w = w' := by
  obtain ⟨n, rfl⟩ := Int.eq_ofNat_of_zero_le h0
  exact unzigzag_any n (by omega) w
theorem unf_call (u : Int) (h0 : 0 ≤ u) (h1 : u < 18446744073709551616) (w : World) :
    Calls Try.prog 90 #[.int .u64 u] w fun e w' => e = .returned (.int .i64 (unzigzag u.toNat)) ∧ w = w' := by
  obtain ⟨n, rfl⟩ := Int.eq_ofNat_of_zero_le h0
  exact unfold_any n (by omega) w
set_option maxRecDepth 100000 in
theorem takeInt_any (s : ByteArray) (at_ : Int) (h0 : -9223372036854775808 ≤ at_) (h1 : at_ ≤ 9223372036854775807) (hs : s.size ≤ 1000000000000) (w : World) :
    Calls Try.prog 96 #[.string s, .int .i64 at_] w fun e w' => e = .returned (.tuple #[.int .i64 (iV s.data.toList at_), .int .i64 (tN s.data.toList at_), .int .i64 (tE s.data.toList at_)]) ∧ w = w' := by
  have ht := take_any s at_ h0 h1 (by omega)
  have hu := unz_call (tV s.data.toList at_) (tV_bd _ _).1 (tV_bd _ _).2
  change ∀ w, Calls Try.prog 100 #[.int .u64 (tV s.data.toList at_)] w fun e w' => e = .returned (.int .i64 (iV s.data.toList at_)) ∧ w = w' at hu
  generalize tV s.data.toList at_ = v at ht hu
  generalize iV s.data.toList at_ = i at hu ⊢
  generalize tN s.data.toList at_ = n at ht ⊢
  generalize tE s.data.toList at_ = e at ht ⊢
  go_enter Try.func96, Try.ntmps96
  go_wp2_with fail
  refine (ht _).mono ?_; rintro e w' ⟨rfl, rfl⟩
  go_wp2_with (go_at_call 100; refine (hu _).mono ?_; rintro e w' ⟨rfl, rfl⟩)
  go_ret3
  exact ⟨rfl, rfl⟩
set_option maxRecDepth 100000 in
theorem rtakeInt_any (s : ByteArray) (at_ : Int) (h0 : -9223372036854775808 ≤ at_) (h1 : at_ ≤ 9223372036854775807) (hs : s.size ≤ 1000000000000) (w : World) :
    Calls Try.prog 71 #[.string s, .int .i64 at_] w fun e w' => e = .returned (.tuple #[.int .i64 (iV s.data.toList at_), .int .i64 (tN s.data.toList at_), .int .i64 (tE s.data.toList at_)]) ∧ w = w' := by
  have ht := rtake_any s at_ h0 h1 hs
  have hu := unf_call (tV s.data.toList at_) (tV_bd _ _).1 (tV_bd _ _).2
  change ∀ w, Calls Try.prog 90 #[.int .u64 (tV s.data.toList at_)] w fun e w' => e = .returned (.int .i64 (iV s.data.toList at_)) ∧ w = w' at hu
  by_cases he : tE s.data.toList at_ = 0
  · rw [he] at ht ⊢
    generalize tV s.data.toList at_ = v at ht hu
    generalize iV s.data.toList at_ = i at hu ⊢
    generalize tN s.data.toList at_ = n at ht ⊢
    clear he
    go_enter Try.func71, Try.ntmps71
    go_wp2_with fail
    refine (ht _).mono ?_; rintro e w' ⟨rfl, rfl⟩
    go_wp2_with (go_at_call 90; refine (hu _).mono ?_; rintro e w' ⟨rfl, rfl⟩)
    go_ret3
    exact ⟨rfl, rfl⟩
  · have h3 := t_err he
    rw [iV_err he]
    rw [h3.1, h3.2] at ht
    rw [h3.2]
    clear hu h3
    generalize tE s.data.toList at_ = e at ht he ⊢
    have hn : (e != 0) = true := bne_iff_ne.2 he
    clear he
    go_enter Try.func71, Try.ntmps71
    go_wp2_with fail
    refine (ht _).mono ?_; rintro e w' ⟨rfl, rfl⟩
    go_wp2
    go_ret3
    exact ⟨rfl, rfl⟩

/-! ### truth values -/
theorem b_out {l : List UInt8} {at_ : Int} (h : outside l at_ = true) : bV l at_ = false ∧ bN l at_ = 0 ∧ bE l at_ = 1 := by
  have he : bE l at_ = 1 := by unfold bE; rw [h]; rfl
  refine ⟨by unfold bV; rw [h]; rfl, by unfold bN; rw [he]; rfl, he⟩
theorem in_false {l : List UInt8} {a : Nat} (ha : a ≤ l.length) : outside l a = false := by
  unfold outside
  exact decide_eq_false (by omega)
theorem b_end {l : List UInt8} {a : Nat} (ha : a = l.length) : bV l a = false ∧ bN l a = 0 ∧ bE l a = 6 := by
  have ho : outside l a = false := in_false (by omega)
  have hd : from_ l a = [] := by
    unfold from_
    rw [Int.toNat_natCast]
    exact List.drop_of_length_le (by omega)
  have he : bE l a = 6 := by unfold bE; rw [ho, hd]; rfl
  refine ⟨by unfold bV; rw [hd]; simp, by unfold bN; rw [he]; rfl, he⟩
theorem b_in {s : ByteArray} {a : Nat} (ha : a < s.size) : bV s.data.toList a = (s[a] == 1) ∧ bE s.data.toList a = if 1 < s[a].toNat then 5 else 0 := by
  have ho : outside s.data.toList a = false := in_false (by rw [← size_len]; omega)
  have hd : from_ s.data.toList a = s[a] :: s.data.toList.drop (a + 1) := drop_cons ha
  refine ⟨?_, by unfold bE; rw [ho, hd]; rfl⟩
  unfold bV
  rw [ho, hd]
  simp
theorem b_bad {s : ByteArray} {a : Nat} (ha : a < s.size) (h : 1 < s[a].toNat) : bV s.data.toList a = false ∧ bN s.data.toList a = 0 ∧ bE s.data.toList a = 5 := by
  have hb := b_in ha
  rw [if_pos h] at hb
  refine ⟨?_, by unfold bN; rw [hb.2]; rfl, hb.2⟩
  rw [hb.1]
  refine beq_eq_false_iff_ne.2 fun e => ?_
  rw [e] at h
  exact absurd h (by decide)
theorem b_ok {s : ByteArray} {a : Nat} (ha : a < s.size) (h : ¬ 1 < s[a].toNat) : bV s.data.toList a = ((s[a].toNat : Int) == 1) ∧ bN s.data.toList a = (a : Int) + 1 ∧ bE s.data.toList a = 0 := by
  have hb := b_in ha
  rw [if_neg h] at hb
  refine ⟨?_, by unfold bN; rw [hb.2]; rfl, hb.2⟩
  rw [hb.1, Bool.eq_iff_iff, beq_iff_eq, beq_iff_eq]
  constructor
  · intro e; rw [e]; rfl
  · intro e; exact UInt8.toNat_inj.1 (by simpa using (by omega : s[a].toNat = 1))
end Go.Proofs.Ytieloegadhgipaa.W
namespace Go.Proofs.Ytieloegadhgipaa.W
open Go.RowKit

theorem extract_list (s : ByteArray) (a b : Nat) : (s.extract a b).data.toList = (s.data.toList.drop a).take (b - a) := by
  simp
theorem tV_in {s : ByteArray} {at_ most : Int} (h : xE s.data.toList at_ most = 0) :
    ∃ n v : Nat, tN s.data.toList at_ = n ∧ tV s.data.toList at_ = v ∧ n + v ≤ s.size ∧ (v : Int) ≤ most ∧ 0 < n := by
  have h1 := xE_zero h
  have h2 := tN_bd h1.1
  have h3 := tV_bd s.data.toList at_
  rw [← size_len] at h1 h2
  exact ⟨(tN s.data.toList at_).toNat, (tV s.data.toList at_).toNat, by omega, by omega, by omega, by omega, by omega⟩
set_option maxRecDepth 100000 in
theorem takeCount_any (s : ByteArray) (at_ most : Int) (h0 : -9223372036854775808 ≤ at_) (h1 : at_ ≤ 9223372036854775807) (h2 : -9223372036854775808 ≤ most) (h3 : most ≤ 9223372036854775807) (hs : s.size ≤ 1000000000000) (w : World) :
    Calls Try.prog 46 #[.string s, .int .i64 at_, .int .i64 most] w fun e w' => e = .returned (.tuple #[.int .i64 (cV s.data.toList at_ most), .int .i64 (cN s.data.toList at_ most), .int .i64 (xE s.data.toList at_ most)]) ∧ w = w' := by
  have ht := take_any s at_ h0 h1 (by omega)
  by_cases he : tE s.data.toList at_ = 0
  · have hv := tV_bd s.data.toList at_
    have hn := tN_bd he
    rw [← size_len] at hn
    by_cases hl : most < 0 ∨ most < tV s.data.toList at_
    · have hx := xE_limit he hl
      have hy := x_err (most := most) (by rw [hx]; decide)
      rw [hx, hy.2.2.1, hy.2.2.2]
      rw [he] at ht
      clear hx hy he
      generalize tV s.data.toList at_ = v at ht hv hl
      generalize tN s.data.toList at_ = n at ht hn
      by_cases hm : most < 0
      · clear hl
        go_enter Try.func46, Try.ntmps46
        go_wp2_with fail
        refine (ht _).mono ?_; rintro e w' ⟨rfl, rfl⟩
        go_wp2
        go_ret3
        exact ⟨rfl, rfl⟩
      · have hl' : most < v := by omega
        clear hl
        go_enter Try.func46, Try.ntmps46
        go_wp2_with fail
        refine (ht _).mono ?_; rintro e w' ⟨rfl, rfl⟩
        go_wp2
        go_ret3
        exact ⟨rfl, rfl⟩
    · by_cases hc : (s.data.toList.length : Int) - tN s.data.toList at_ < tV s.data.toList at_
      · have hx := xE_short he hl hc
        have hy := x_err (most := most) (by rw [hx]; decide)
        rw [hx, hy.2.2.1, hy.2.2.2]
        rw [he] at ht
        rw [← size_len] at hc
        clear hx hy he
        generalize tV s.data.toList at_ = v at ht hv hl hc
        generalize tN s.data.toList at_ = n at ht hn hc
        have hm : ¬ most < 0 := by omega
        have hl' : v ≤ most := by omega
        clear hl
        go_enter Try.func46, Try.ntmps46
        go_wp2_with fail
        refine (ht _).mono ?_; rintro e w' ⟨rfl, rfl⟩
        go_wp2
        go_ret3
        exact ⟨rfl, rfl⟩
      · have hx := xE_ok he hl hc
        have hy := x_ok hx
        rw [hx, hy.2.2.1, hy.2.2.2]
        rw [he] at ht
        rw [← size_len] at hc
        clear hx hy he
        generalize tV s.data.toList at_ = v at ht hv hl hc ⊢
        generalize tN s.data.toList at_ = n at ht hn hc ⊢
        have hm : ¬ most < 0 := by omega
        have hl' : v ≤ most := by omega
        clear hl
        go_enter Try.func46, Try.ntmps46
        go_wp2_with fail
        refine (ht _).mono ?_; rintro e w' ⟨rfl, rfl⟩
        go_wp2
        go_ret3
        exact ⟨rfl, rfl⟩
  · have hx := xE_t most he
    have hy := x_err (most := most) (by rw [hx]; exact he)
    rw [hx, hy.2.2.1, hy.2.2.2]
    have h4 := t_err he
    rw [h4.1, h4.2] at ht
    clear hx hy h4
    generalize tE s.data.toList at_ = e at ht he ⊢
    have hn : (e != 0) = true := bne_iff_ne.2 he
    clear he
    go_enter Try.func46, Try.ntmps46
    go_wp2_with fail
    refine (ht _).mono ?_; rintro e w' ⟨rfl, rfl⟩
    go_wp2
    go_ret3
    exact ⟨rfl, rfl⟩
set_option maxRecDepth 100000 in
theorem rtakeCount_any (s : ByteArray) (at_ most : Int) (h0 : -9223372036854775808 ≤ at_) (h1 : at_ ≤ 9223372036854775807) (h2 : -9223372036854775808 ≤ most) (h3 : most ≤ 9223372036854775807) (hs : s.size ≤ 1000000000000) (w : World) :
    Calls Try.prog 48 #[.string s, .int .i64 at_, .int .i64 most] w fun e w' => e = .returned (.tuple #[.int .i64 (cV s.data.toList at_ most), .int .i64 (cN s.data.toList at_ most), .int .i64 (xE s.data.toList at_ most)]) ∧ w = w' := by
  have ht := rtake_any s at_ h0 h1 hs
  by_cases he : tE s.data.toList at_ = 0
  · have hv := tV_bd s.data.toList at_
    have hn := tN_bd he
    rw [← size_len] at hn
    by_cases hl : most < 0 ∨ most < tV s.data.toList at_
    · have hx := xE_limit he hl
      have hy := x_err (most := most) (by rw [hx]; decide)
      rw [hx, hy.2.2.1, hy.2.2.2]
      rw [he] at ht
      clear hx hy he
      generalize tV s.data.toList at_ = v at ht hv hl
      generalize tN s.data.toList at_ = n at ht hn
      by_cases hm : most < 0
      · clear hl
        go_enter Try.func48, Try.ntmps48
        go_wp2_with fail
        refine (ht _).mono ?_; rintro e w' ⟨rfl, rfl⟩
        go_wp2
        go_ret3
        exact ⟨rfl, rfl⟩
      · have hl' : most < v := by omega
        clear hl
        go_enter Try.func48, Try.ntmps48
        go_wp2_with fail
        refine (ht _).mono ?_; rintro e w' ⟨rfl, rfl⟩
        go_wp2
        go_ret3
        exact ⟨rfl, rfl⟩
    · by_cases hc : (s.data.toList.length : Int) - tN s.data.toList at_ < tV s.data.toList at_
      · have hx := xE_short he hl hc
        have hy := x_err (most := most) (by rw [hx]; decide)
        rw [hx, hy.2.2.1, hy.2.2.2]
        rw [he] at ht
        rw [← size_len] at hc
        clear hx hy he
        generalize tV s.data.toList at_ = v at ht hv hl hc
        generalize tN s.data.toList at_ = n at ht hn hc
        have hm : ¬ most < 0 := by omega
        have hl' : v ≤ most := by omega
        clear hl
        go_enter Try.func48, Try.ntmps48
        go_wp2_with fail
        refine (ht _).mono ?_; rintro e w' ⟨rfl, rfl⟩
        go_wp2
        go_ret3
        exact ⟨rfl, rfl⟩
      · have hx := xE_ok he hl hc
        have hy := x_ok hx
        rw [hx, hy.2.2.1, hy.2.2.2]
        rw [he] at ht
        rw [← size_len] at hc
        clear hx hy he
        generalize tV s.data.toList at_ = v at ht hv hl hc ⊢
        generalize tN s.data.toList at_ = n at ht hn hc ⊢
        have hm : ¬ most < 0 := by omega
        have hl' : v ≤ most := by omega
        clear hl
        go_enter Try.func48, Try.ntmps48
        go_wp2_with fail
        refine (ht _).mono ?_; rintro e w' ⟨rfl, rfl⟩
        go_wp2
        go_ret3
        exact ⟨rfl, rfl⟩
  · have hx := xE_t most he
    have hy := x_err (most := most) (by rw [hx]; exact he)
    rw [hx, hy.2.2.1, hy.2.2.2]
    have h4 := t_err he
    rw [h4.1, h4.2] at ht
    clear hx hy h4
    generalize tE s.data.toList at_ = e at ht he ⊢
    have hn : (e != 0) = true := bne_iff_ne.2 he
    clear he
    go_enter Try.func48, Try.ntmps48
    go_wp2_with fail
    refine (ht _).mono ?_; rintro e w' ⟨rfl, rfl⟩
    go_wp2
    go_ret3
    exact ⟨rfl, rfl⟩
theorem slice_eq (s : ByteArray) (n v : Nat) : s.extract n (n + v) = ⟨((s.data.toList.drop n).take v).toArray⟩ := by
  refine WideShapes.bytes_inj ?_
  rw [extract_list, Nat.add_sub_cancel_left]
theorem slice_run (s : ByteArray) (n v : Nat) (h : n + v ≤ s.size) {d : ByteArray} (hd : s.extract n (n + v) = d) (W : World) :
    (Instr.slice 9 (.string s) (some (.int .i64 (n : Int))) (some (.int .i64 ((n : Int) + (v : Int)))) none).run Try.prog W = .ok (.string d) W := by
  have := run_slice_string (P := Try.prog) W 9 s .i64 .i64 (n : Int) ((n : Int) + (v : Int)) Try.underlying9 (by omega) (by omega) (by omega)
  rw [this, ← hd]
  rfl
/-- strings.Clone -/
theorem clone_any (s : ByteArray) (w : World) (hs : s.size ≤ 281474976710656) :
    Calls Try.prog 60 #[.string s] w fun e w' => e = .returned (.string s) ∧ Below w.heap.size w w' := by
  go_enter Try.func60, Try.ntmps60
  go_wp2_with (go_at_call 80; refine (Try.stringslite_Clone _ _ hs).mono ?_; rintro e w' ⟨rfl, hb⟩)
  go_ret
  exact ⟨rfl, hb⟩
set_option maxRecDepth 100000 in
theorem takeText_any (s : ByteArray) (at_ most : Int) (h0 : -9223372036854775808 ≤ at_) (h1 : at_ ≤ 9223372036854775807) (h2 : -9223372036854775808 ≤ most) (h3 : most ≤ 9223372036854775807) (hs : s.size ≤ 1000000000000) (w : World) :
    Calls Try.prog 68 #[.string s, .int .i64 at_, .int .i64 most] w fun e w' => e = .returned (.tuple #[.string ⟨(xV s.data.toList at_ most).toArray⟩, .int .i64 (xN s.data.toList at_ most), .int .i64 (xE s.data.toList at_ most)]) ∧ Below w.heap.size w w' := by
  have ht := takeCount_any s at_ most h0 h1 h2 h3 hs
  by_cases he : xE s.data.toList at_ most = 0
  · obtain ⟨n, v, hn, hv, hsz, hm, hn0⟩ := tV_in he
    have hx := x_ok he
    rw [he, hx.2.2.1, hx.2.2.2, hn, hv] at ht
    rw [he, hx.1, hx.2.1, hn, hv]
    have HD := Lib.hid (slice_eq s n v)
    rw [Int.toNat_natCast, Int.toNat_natCast]
    generalize ByteArray.mk ((s.data.toList.drop n).take v).toArray = d at HD ⊢
    have hdz : d.size ≤ 281474976710656 := by rw [← HD.out]; simp; omega
    have hsl := slice_run s n v hsz HD.out
    clear he hn hv hx h2 h3 hm HD
    go_enter Try.func68, Try.ntmps68
    go_wp2_with fail
    refine (ht _).mono ?_; rintro e w' ⟨rfl, rfl⟩
    go_wp2_with (first | (go_at_call 60; refine (clone_any _ _ hdz).mono ?_; rintro e w' ⟨rfl, hb⟩) | fail)
    go_ret3
    exact ⟨rfl, hb⟩
  · have hx := x_err he
    rw [hx.2.2.1, hx.2.2.2] at ht
    rw [hx.1, hx.2.1]
    generalize xE s.data.toList at_ most = e at ht he ⊢
    have hn : (e != 0) = true := bne_iff_ne.2 he
    clear he hx
    go_enter Try.func68, Try.ntmps68
    go_wp2_with fail
    refine (ht _).mono ?_; rintro e w' ⟨rfl, rfl⟩
    go_wp2
    go_ret3
    exact ⟨rfl, Below.refl _ _⟩
/-- With an error no memory is made. -/
theorem takeText_err (s : ByteArray) (at_ most : Int) (h0 : -9223372036854775808 ≤ at_) (h1 : at_ ≤ 9223372036854775807) (h2 : -9223372036854775808 ≤ most) (h3 : most ≤ 9223372036854775807) (hs : s.size ≤ 1000000000000) (he : xE s.data.toList at_ most ≠ 0) (w : World) :
    Calls Try.prog 68 #[.string s, .int .i64 at_, .int .i64 most] w fun e w' => e = .returned (.tuple #[.string ⟨#[]⟩, .int .i64 0, .int .i64 (xE s.data.toList at_ most)]) ∧ w = w' := by
  have ht := takeCount_any s at_ most h0 h1 h2 h3 hs
  have hx := x_err he
  rw [hx.2.2.1, hx.2.2.2] at ht
  generalize xE s.data.toList at_ most = e at ht he ⊢
  have hn : (e != 0) = true := bne_iff_ne.2 he
  clear he hx
  go_enter Try.func68, Try.ntmps68
  go_wp2_with fail
  refine (ht _).mono ?_; rintro e w' ⟨rfl, rfl⟩
  go_wp2
  go_ret3
  exact ⟨rfl, rfl⟩
set_option maxRecDepth 100000 in
theorem rtakeText_any (s : ByteArray) (at_ most : Int) (h0 : -9223372036854775808 ≤ at_) (h1 : at_ ≤ 9223372036854775807) (h2 : -9223372036854775808 ≤ most) (h3 : most ≤ 9223372036854775807) (hs : s.size ≤ 1000000000000) (w : World) :
    Calls Try.prog 49 #[.string s, .int .i64 at_, .int .i64 most] w fun e w' => e = .returned (.tuple #[.string ⟨(xV s.data.toList at_ most).toArray⟩, .int .i64 (xN s.data.toList at_ most), .int .i64 (xE s.data.toList at_ most)]) ∧ w = w' := by
  have ht := rtake_any s at_ h0 h1 hs
  by_cases he : tE s.data.toList at_ = 0
  · have hv := tV_bd s.data.toList at_
    have hn := tN_bd he
    rw [← size_len] at hn
    by_cases hl : most < 0 ∨ most < tV s.data.toList at_
    · have hx := xE_limit he hl
      have hy := x_err (most := most) (by rw [hx]; decide)
      rw [hx, hy.1, hy.2.1]
      rw [he] at ht
      clear hx hy he
      generalize tV s.data.toList at_ = v at ht hv hl
      generalize tN s.data.toList at_ = n at ht hn
      by_cases hm : most < 0
      · clear hl
        go_enter Try.func49, Try.ntmps49
        go_wp2_with fail
        refine (ht _).mono ?_; rintro e w' ⟨rfl, rfl⟩
        go_wp2
        go_ret3
        exact ⟨rfl, rfl⟩
      · have hl' : most < v := by omega
        clear hl
        go_enter Try.func49, Try.ntmps49
        go_wp2_with fail
        refine (ht _).mono ?_; rintro e w' ⟨rfl, rfl⟩
        go_wp2
        go_ret3
        exact ⟨rfl, rfl⟩
    · by_cases hc : (s.data.toList.length : Int) - tN s.data.toList at_ < tV s.data.toList at_
      · have hx := xE_short he hl hc
        have hy := x_err (most := most) (by rw [hx]; decide)
        rw [hx, hy.1, hy.2.1]
        rw [he] at ht
        rw [← size_len] at hc
        clear hx hy he
        generalize tV s.data.toList at_ = v at ht hv hl hc
        generalize tN s.data.toList at_ = n at ht hn hc
        have hm : ¬ most < 0 := by omega
        have hl' : v ≤ most := by omega
        clear hl
        go_enter Try.func49, Try.ntmps49
        go_wp2_with fail
        refine (ht _).mono ?_; rintro e w' ⟨rfl, rfl⟩
        go_wp2
        go_ret3
        exact ⟨rfl, rfl⟩
      · have hx := xE_ok he hl hc
        obtain ⟨n, v, hn, hv, hsz, hm, hn0⟩ := tV_in hx
        have hy := x_ok hx
        rw [hx, hy.1, hy.2.1, hn, hv]
        rw [he, hn, hv] at ht
        have HD := Lib.hid (slice_eq s n v)
        rw [Int.toNat_natCast, Int.toNat_natCast]
        generalize ByteArray.mk ((s.data.toList.drop n).take v).toArray = d at HD ⊢
        have hsl := slice_run s n v hsz HD.out
        have hm0 : ¬ most < 0 := by omega
        have hsz' : (v : Int) ≤ (s.size : Int) - n := by omega
        clear he hn hv hx hy HD hl hc
        go_enter Try.func49, Try.ntmps49
        go_wp2_with fail
        refine (ht _).mono ?_; rintro e w' ⟨rfl, rfl⟩
        go_wp2
        go_ret3
        exact ⟨rfl, rfl⟩
  · have hx := xE_t most he
    have hy := x_err (most := most) (by rw [hx]; exact he)
    rw [hx, hy.1, hy.2.1]
    have h4 := t_err he
    rw [h4.1, h4.2] at ht
    clear hx hy h4
    generalize tE s.data.toList at_ = e at ht he ⊢
    have hn : (e != 0) = true := bne_iff_ne.2 he
    clear he
    go_enter Try.func49, Try.ntmps49
    go_wp2_with fail
    refine (ht _).mono ?_; rintro e w' ⟨rfl, rfl⟩
    go_wp2
    go_ret3
    exact ⟨rfl, rfl⟩
end Go.Proofs.Ytieloegadhgipaa.W
namespace Go.Proofs.Ytieloegadhgipaa.W
open Go.RowKit
open Go.Lib (uvarint zigzag)

theorem l_t1 (w : World) : Calls Try.prog 67 #[.string ⟨#[128]⟩, .int .i64 0] w fun e w' => e = .returned (.tuple #[.int .u64 0, .int .i64 0, .int .i64 6]) ∧ w = w' := by
  have h := take_any ⟨#[128]⟩ 0 (by omega) (by omega) (by decide) w
  rw [show tV (ByteArray.mk #[128]).data.toList 0 = 0 by decide, show tN (ByteArray.mk #[128]).data.toList 0 = 0 by decide, show tE (ByteArray.mk #[128]).data.toList 0 = 6 by decide] at h
  exact h
theorem l_t2 (w : World) : Calls Try.prog 67 #[.string ⟨#[128, 0]⟩, .int .i64 0] w fun e w' => e = .returned (.tuple #[.int .u64 0, .int .i64 0, .int .i64 5]) ∧ w = w' := by
  have h := take_any ⟨#[128, 0]⟩ 0 (by omega) (by omega) (by decide) w
  rw [show tV (ByteArray.mk #[128, 0]).data.toList 0 = 0 by decide, show tN (ByteArray.mk #[128, 0]).data.toList 0 = 0 by decide, show tE (ByteArray.mk #[128, 0]).data.toList 0 = 5 by decide] at h
  exact h
theorem l_t3 (w : World) : Calls Try.prog 67 #[.string ⟨#[120, 172, 2, 121]⟩, .int .i64 1] w fun e w' => e = .returned (.tuple #[.int .u64 300, .int .i64 3, .int .i64 0]) ∧ w = w' := by
  have h := take_any ⟨#[120, 172, 2, 121]⟩ 1 (by omega) (by omega) (by decide) w
  rw [show tV (ByteArray.mk #[120, 172, 2, 121]).data.toList 1 = 300 by decide, show tN (ByteArray.mk #[120, 172, 2, 121]).data.toList 1 = 3 by decide, show tE (ByteArray.mk #[120, 172, 2, 121]).data.toList 1 = 0 by decide] at h
  exact h
theorem l_x1 (w : World) : Calls Try.prog 68 #[.string ⟨#[2, 97, 98]⟩, .int .i64 0, .int .i64 1] w fun e w' => e = .returned (.tuple #[.string ⟨#[]⟩, .int .i64 0, .int .i64 2]) ∧ w = w' := by
  have h := takeText_err ⟨#[2, 97, 98]⟩ 0 1 (by omega) (by omega) (by omega) (by omega) (by decide) (by decide) w
  rw [show xE (ByteArray.mk #[2, 97, 98]).data.toList 0 1 = 2 by decide] at h
  exact h
theorem u_300 : uvarint 300 = [172, 2] := by
  rw [Lib.uvarint_big (by decide), Lib.uvarint_small (by decide)]; rfl
theorem l_u (w : World) : Calls Try.prog 51 #[.int .u64 300] w fun e w' => e = .returned (.string ⟨#[172, 2]⟩) ∧ Below w.heap.size w w' := by
  have h := uint_any 300 (by omega) w
  rw [u_300] at h
  exact h
theorem l_i (w : World) : Calls Try.prog 75 #[.int .i64 (-3)] w fun e w' => e = .returned (.string ⟨#[5]⟩) ∧ Below w.heap.size w w' := by
  have h := int_any (-3) (by omega) (by omega) w
  rw [show intText (-3) = [5] by unfold intText; rw [show zigzag (-3) = 5 by decide, Lib.uvarint_small (by decide)]; rfl] at h
  exact h
theorem l_x (w : World) : Calls Try.prog 52 #[.string ⟨#[97, 98]⟩] w fun e w' => e = .returned (.string ⟨#[2, 97, 98]⟩) ∧ Below w.heap.size w w' := by
  have h := text_any ⟨#[97, 98]⟩ (by decide) w
  rw [show text (ByteArray.mk #[97, 98]).data.toList = [2, 97, 98] by unfold text; rw [show (ByteArray.mk #[97, 98]).data.toList.length = 2 from rfl, Lib.uvarint_small (by decide)]; rfl] at h
  exact h
end Go.Proofs.Ytieloegadhgipaa.W
namespace Go.Proofs.Ytieloegadhgipaa.W
open Go.RowKit

theorem from_drop (l : List UInt8) (a : Nat) : from_ (l.drop a) 0 = from_ l a := rfl
theorem shift_t {l : List UInt8} {a : Nat} (ha : a ≤ l.length) :
    tV (l.drop a) 0 = tV l a ∧ tE (l.drop a) 0 = tE l a ∧ (tE l a = 0 → tN (l.drop a) 0 + a = tN l a) := by
  have ho : outside l a = false := in_false ha
  have hp : outside (l.drop a) 0 = false := in_false (a := 0) (Nat.zero_le _)
  have h1 := tE_in ho
  have h2 := tE_in hp
  rw [from_drop] at h2
  refine ⟨h2.1.trans h1.1.symm, h2.2.trans h1.2.symm, fun he => ?_⟩
  unfold tN
  rw [if_pos he, if_pos (h2.2.trans (h1.2.symm.trans he)), from_drop]
  omega
theorem shift_x {l : List UInt8} {a : Nat} (ha : a ≤ l.length) (m : Int) :
    xE (l.drop a) 0 m = xE l a m ∧ xV (l.drop a) 0 m = xV l a m ∧ (xE l a m = 0 → xN (l.drop a) 0 m + a = xN l a m) := by
  have h := shift_t ha
  have he : xE (l.drop a) 0 m = xE l a m := by
    unfold xE
    rw [h.1, h.2.1]
    by_cases h0 : tE l a = 0
    · have := h.2.2 h0
      rw [List.length_drop, show (((l.length - a : Nat) : Int) - tN (l.drop a) 0) = (l.length : Int) - tN l a by omega]
    · rw [if_pos h0, if_pos h0]
  refine ⟨he, ?_, fun hz => ?_⟩
  · unfold xV
    rw [he]
    by_cases hz : xE l a m = 0
    · rw [if_pos hz, if_pos hz, h.1]
      have h0 := (xE_zero hz).1
      have h1 := h.2.2 h0
      have h2 := tN_bd h0
      have h3 := tN_bd (l := l.drop a) (at_ := 0) (h.2.1.trans h0)
      rw [List.drop_drop, show a + (tN (l.drop a) 0).toNat = (tN l a).toNat by omega]
    · rw [if_neg hz, if_neg hz]
  · unfold xN
    rw [he, if_pos hz, if_pos hz, h.1]
    have := h.2.2 (xE_zero hz).1
    omega
theorem slice_rest (s : ByteArray) (a : Nat) (h : a ≤ s.size) {d : ByteArray} (hd : s.extract a s.size = d) (W : World) :
    (Instr.slice 9 (.string s) (some (.int .i64 (a : Int))) none none).run Try.prog W = .ok (.string d) W := by
  have := run_slice_string_l (P := Try.prog) W 9 s Try.underlying9 .i64 (a : Int) (by omega) (by omega)
  rw [this, ← hd]
  rfl
theorem tN_bd2 (l : List UInt8) (a : Int) : 0 ≤ tN l a ∧ tN l a ≤ l.length := by
  by_cases h : tE l a = 0
  · have := tN_bd h; omega
  · rw [(t_err h).2]; omega
theorem xN_bd2 (l : List UInt8) (a m : Int) : 0 ≤ xN l a m ∧ xN l a m ≤ l.length := by
  by_cases h : xE l a m = 0
  · have h1 := xE_zero h
    have h2 := tN_bd h1.1
    have h3 := tV_bd l a
    rw [(x_ok h).1]; omega
  · rw [(x_err h).1]; omega
end Go.Proofs.Ytieloegadhgipaa.W
namespace Go.Proofs.Ytieloegadhgipaa.W
open Go.RowKit
open Go.Lib (uvarint zigzag unzigzag)

theorem t_zero (l : List UInt8) : tV l 0 = ((du 0 0 l).1 : Int) ∧ tE l 0 = ((du 0 0 l).2.2 : Int) ∧ (tE l 0 = 0 → tN l 0 = ((du 0 0 l).2.1 : Int)) := by
  have h := tE_in (l := l) (at_ := 0) (in_false (a := 0) (Nat.zero_le _))
  refine ⟨h.1, h.2, fun he => ?_⟩
  unfold tN
  rw [if_pos he]
  show (0 : Int) + ((du 0 0 (from_ l 0)).2.1 : Int) = _
  rw [Int.zero_add]
  rfl
/-- A varint behind other bytes. -/
theorem enc_at (pre rest : List UInt8) {x : Nat} (hx : x < 18446744073709551616) :
    tV (pre ++ (uvarint x ++ rest)) pre.length = x ∧ tE (pre ++ (uvarint x ++ rest)) pre.length = 0 ∧ tN (pre ++ (uvarint x ++ rest)) pre.length = (pre.length + (uvarint x).length : Nat) := by
  have hs := shift_t (l := pre ++ (uvarint x ++ rest)) (a := pre.length) (by simp)
  rw [List.drop_left] at hs
  have hd := du_enc rest x 0 0 (by omega) (by omega) (by omega)
  have h0 := t_zero (uvarint x ++ rest)
  rw [hd] at h0
  have he : tE (uvarint x ++ rest) 0 = 0 := h0.2.1
  refine ⟨?_, hs.2.1.symm.trans he, ?_⟩
  · rw [← hs.1, h0.1]
    show ((0 + x * 128 ^ 0 : Nat) : Int) = x
    omega
  · rw [← hs.2.2 (hs.2.1.symm.trans he), h0.2.2 he]
    show ((0 + (uvarint x).length : Nat) : Int) + (pre.length : Int) = _
    omega
theorem text_length (t : List UInt8) : (text t).length = (uvarint t.length).length + t.length := by unfold text; rw [List.length_append]
/-- A text behind other bytes. -/
theorem text_at (pre rest t : List UInt8) (ht : t.length ≤ 1000000000000) {m : Int} (hm : (t.length : Int) ≤ m) :
    xE (pre ++ (text t ++ rest)) pre.length m = 0 ∧ xV (pre ++ (text t ++ rest)) pre.length m = t ∧ xN (pre ++ (text t ++ rest)) pre.length m = (pre.length + (text t).length : Nat) ∧
      cV (pre ++ (text t ++ rest)) pre.length m = t.length ∧ cN (pre ++ (text t ++ rest)) pre.length m = (pre.length + (uvarint t.length).length : Nat) := by
  have e : pre ++ (text t ++ rest) = pre ++ (uvarint t.length ++ (t ++ rest)) := by unfold text; rw [List.append_assoc]
  rw [e]
  have h := enc_at pre (t ++ rest) (x := t.length) (by omega)
  have hl : ((pre ++ (uvarint t.length ++ (t ++ rest))).length : Int) = pre.length + (uvarint t.length).length + t.length + rest.length := by
    simp only [List.length_append]; omega
  have hx := xE_ok (most := m) h.2.1 (by rw [h.1]; omega) (by rw [h.1, h.2.2, hl]; omega)
  have hy := x_ok hx
  refine ⟨hx, ?_, ?_, hy.2.2.1.trans h.1, hy.2.2.2.trans h.2.2⟩
  · rw [hy.2.1, h.1, h.2.2, Int.toNat_natCast, Int.toNat_natCast, ← List.append_assoc, ← List.length_append, List.drop_left, List.take_left]
  · rw [hy.1, h.1, h.2.2, text_length]; omega
theorem text_limit (t : List UInt8) (ht : t.length ≤ 1000000000000) : xE (text t) 0 ((t.length : Int) - 1) = 2 := by
  have h := enc_at [] t (x := t.length) (by omega)
  exact xE_limit h.2.1 (by have := h.1; change tV (text t) 0 = _ at this; omega)
/-- A proper prefix of a varint. -/
theorem uint_cut {x k : Nat} (hx : x < 18446744073709551616) (hk : k < (uvarint x).length) : tV ((uvarint x).take k) 0 = 0 ∧ tN ((uvarint x).take k) 0 = 0 ∧ tE ((uvarint x).take k) 0 = 6 := by
  have h0 := t_zero ((uvarint x).take k)
  rw [du_cut x 0 0 k (by omega) (by omega) (by omega) hk] at h0
  have he : tE ((uvarint x).take k) 0 = 6 := h0.2.1
  have h1 := t_err (l := (uvarint x).take k) (at_ := 0) (by omega)
  exact ⟨h1.1, h1.2, he⟩
/-- A proper prefix of a text's encoding. -/
theorem text_cut {t : List UInt8} {k : Nat} (ht : t.length ≤ 300) (hk : k < (text t).length) {m : Int} (hm : (t.length : Int) ≤ m) : xE ((text t).take k) 0 m = 6 := by
  rw [text_length] at hk
  by_cases h : k < (uvarint t.length).length
  · have e : (text t).take k = (uvarint t.length).take k := by
      unfold text
      rw [List.take_append_of_le_length (by omega)]
    have h1 := uint_cut (x := t.length) (by omega) h
    rw [e, xE_t m (by omega)]
    exact h1.2.2
  · have e : (text t).take k = [] ++ (uvarint t.length ++ t.take (k - (uvarint t.length).length)) := by
      unfold text
      rw [List.take_append, List.take_of_length_le (by omega)]
      rfl
    have h1 := enc_at [] (t.take (k - (uvarint t.length).length)) (x := t.length) (by omega)
    rw [← e] at h1
    have hl : (((text t).take k).length : Int) = k := by rw [List.length_take, text_length]; omega
    have ht0 : ((([] : List UInt8).length : Nat) : Int) = 0 := rfl
    rw [ht0] at h1
    refine xE_short h1.2.1 (by rw [h1.1]; omega) ?_
    rw [h1.1, h1.2.2, hl]
    simp only [List.length_nil]
    omega
theorem zigzag_back (u : Nat) : zigzag (unzigzag u) = u := by
  rw [unz_int]
  unfold zigzag
  split <;> split <;> omega
theorem unz_back {n : Int} : unzigzag (zigzag n) = n := by
  rw [unz_int]
  unfold zigzag
  split <;> split <;> omega
theorem unz_bd {u : Nat} (hu : u < 18446744073709551616) : -9223372036854775808 ≤ unzigzag u ∧ unzigzag u ≤ 9223372036854775807 := by
  rw [unz_int]
  split <;> omega
/-- What TakeUint accepts at the start is the varint of its value. -/
theorem accepted {l : List UInt8} (h : tE l 0 = 0) : ∃ y c : Nat, tV l 0 = y ∧ tN l 0 = c ∧ y < 18446744073709551616 ∧ 1 ≤ c ∧ c ≤ l.length ∧ uvarint y = l.take c := by
  have h0 := t_zero l
  have hb := tV_bd l 0
  have hn := tN_bd h
  obtain ⟨y, _, hv, hc, rest, hr⟩ := du_dec l 0 0 (by omega) (by have := h0.2.1; omega)
  have hv' : tV l 0 = y := by
    rw [h0.1, hv]
    show ((0 + y * 128 ^ 0 : Nat) : Int) = y
    omega
  have hc' : tN l 0 = (uvarint y).length := by rw [h0.2.2 h, hc]; omega
  refine ⟨y, (uvarint y).length, hv', hc', by omega, by omega, by omega, ?_⟩
  rw [hr, List.take_left]
/-- What TakeText accepts at the start is the encoding of its text. -/
theorem accepted_text {l : List UInt8} {m : Int} (h : xE l 0 m = 0) : ∃ c : Nat, xN l 0 m = c ∧ 1 ≤ c ∧ c ≤ l.length ∧ (xV l 0 m).length ≤ l.length ∧ text (xV l 0 m) = l.take c := by
  have hz := xE_zero h
  obtain ⟨y, c, hv, hn, hy, h1, h2, he⟩ := accepted hz.1
  have hx := x_ok h
  rw [hv, hn] at hz hx
  have hlen : ((l.drop c).take y).length = y := by rw [List.length_take, List.length_drop]; omega
  refine ⟨c + y, by rw [hx.1]; omega, by omega, by omega, ?_, ?_⟩
  · rw [hx.2.1, Int.toNat_natCast, Int.toNat_natCast, hlen]; omega
  · rw [hx.2.1, Int.toNat_natCast, Int.toNat_natCast, text, hlen, he, List.take_add]
end Go.Proofs.Ytieloegadhgipaa.W
