/-
  Plain mathematics of layer 1, without the program: the value and the error of an exact result, the quotient and the remainder that are rounded toward negative infinity, and the decimal notation of integers.
-/
import Derived.Lib.ItoaNum
namespace Go.Proofs.YtbmdadhbkdkgmaaDoor

/-- the value of an exact result: itself if it is a 64-bit integer, otherwise 0 -/
def vR (n : Int) : Int := if -9223372036854775808 ≤ n ∧ n ≤ 9223372036854775807 then n else 0
/-- the error of an exact result: 0, or 3 if it is no 64-bit integer -/
def eR (n : Int) : Int := if -9223372036854775808 ≤ n ∧ n ≤ 9223372036854775807 then 0 else 3
theorem vR_in {n : Int} (h : -9223372036854775808 ≤ n ∧ n ≤ 9223372036854775807) : vR n = n := if_pos h
theorem eR_in {n : Int} (h : -9223372036854775808 ≤ n ∧ n ≤ 9223372036854775807) : eR n = 0 := if_pos h
theorem vR_out {n : Int} (h : ¬ (-9223372036854775808 ≤ n ∧ n ≤ 9223372036854775807)) : vR n = 0 := if_neg h
theorem eR_out {n : Int} (h : ¬ (-9223372036854775808 ≤ n ∧ n ≤ 9223372036854775807)) : eR n = 3 := if_neg h
theorem vR_bd (n : Int) : -9223372036854775808 ≤ vR n ∧ vR n ≤ 9223372036854775807 := by
  unfold vR; split <;> omega

/-! ### quotient and remainder -/

theorem tmod_sign {a b : Int} (h : a.tmod b ≠ 0) : a.tmod b < 0 ↔ a < 0 := by
  by_cases ha : 0 ≤ a
  · have := Int.tmod_nonneg b ha
    omega
  · have h1 := Int.tmod_nonneg b (show 0 ≤ -a by omega)
    rw [Int.neg_tmod] at h1
    omega
theorem tmod_abs (a : Int) {b : Int} (hb : b ≠ 0) : (0 < b → -b < a.tmod b ∧ a.tmod b < b) ∧ (b < 0 → b < a.tmod b ∧ a.tmod b < -b) := by
  have h := Int.natAbs_tmod a b
  have h2 : a.natAbs % b.natAbs < b.natAbs := Nat.mod_lt _ (by omega)
  rw [← h] at h2
  omega
theorem tdiv_bd {a b : Int} (ha : -9223372036854775808 ≤ a) (ha' : a ≤ 9223372036854775807) (h0 : b ≠ 0) (h1 : b ≠ -1) :
    (b = 1 → a.tdiv b = a) ∧ (b ≠ 1 → -4611686018427387904 ≤ a.tdiv b ∧ a.tdiv b ≤ 4611686018427387904) := by
  constructor
  · rintro rfl; simp
  · intro hb
    have h := Int.natAbs_tdiv a b
    have h2 : a.natAbs / b.natAbs ≤ a.natAbs / 2 := Nat.div_le_div_left (by omega) (by decide)
    have h3 : a.natAbs.div b.natAbs = a.natAbs / b.natAbs := rfl
    omega
/-- the quotient, rounded toward negative infinity -/
def qF (a b : Int) : Int := if a.tmod b ≠ 0 ∧ ¬ (a < 0 ↔ b < 0) then a.tdiv b - 1 else a.tdiv b
/-- the remainder that belongs to it -/
def rF (a b : Int) : Int := if a.tmod b ≠ 0 ∧ ¬ (a < 0 ↔ b < 0) then a.tmod b + b else a.tmod b
theorem qF_bd {a b : Int} (ha : -9223372036854775808 ≤ a) (ha' : a ≤ 9223372036854775807) (h0 : b ≠ 0) (h1 : b ≠ -1) :
    -9223372036854775808 ≤ qF a b ∧ qF a b ≤ 9223372036854775807 := by
  have h := tdiv_bd ha ha' h0 h1
  unfold qF
  by_cases hb : b = 1
  · subst hb
    have : a.tmod 1 = 0 := by simp
    rw [if_neg (by simp)]
    omega
  · have h := h.2 hb
    split <;> omega
theorem rF_bd (a : Int) {b : Int} (h0 : b ≠ 0) : (0 < b → 0 ≤ rF a b ∧ rF a b < b) ∧ (b < 0 → b < rF a b ∧ rF a b ≤ 0) := by
  have h := tmod_abs a h0
  have hs := @tmod_sign a b
  unfold rF
  split <;> omega
theorem qr_eq (a b : Int) : b * qF a b + rF a b = a := by
  have h := Int.mul_tdiv_add_tmod a b
  unfold qF rF
  split
  · rw [Int.mul_sub]; omega
  · exact h
/-- the sign of the quotient -/
theorem qF_sign (a : Int) {b : Int} (h0 : b ≠ 0) : (0 ≤ qF a b ↔ (a = 0 ∨ (a < 0 ↔ b < 0) ∨ qF a b = 0)) := by
  have h := qr_eq a b
  have hr := rF_bd a h0
  generalize qF a b = q at *
  generalize rF a b = r at *
  constructor
  · intro hq
    by_cases hq0 : q = 0
    · exact Or.inr (Or.inr hq0)
    · have hq1 : 1 ≤ q := by omega
      rcases Int.lt_or_gt_of_ne h0 with hb | hb
      · have : b * q ≤ b * 1 := Int.mul_le_mul_of_nonpos_left (by omega) hq1
        omega
      · have : b * 1 ≤ b * q := Int.mul_le_mul_of_nonneg_left hq1 (by omega)
        omega
  · intro hc
    rcases hc with rfl | hc | rfl
    · by_cases hq : 0 ≤ q
      · exact hq
      · rcases Int.lt_or_gt_of_ne h0 with hb | hb
        · have : b * (-1) ≤ b * q := Int.mul_le_mul_of_nonpos_left (by omega) (by omega)
          omega
        · have : b * q ≤ b * (-1) := Int.mul_le_mul_of_nonneg_left (by omega) (by omega)
          omega
    · by_cases hq : 0 ≤ q
      · exact hq
      · rcases Int.lt_or_gt_of_ne h0 with hb | hb
        · have : b * (-1) ≤ b * q := Int.mul_le_mul_of_nonpos_left (by omega) (by omega)
          omega
        · have : b * q ≤ b * (-1) := Int.mul_le_mul_of_nonneg_left (by omega) (by omega)
          omega
    · exact Int.le_refl _

/-! ### products -/

/-- A wrapped product, divided again, is the first factor only if nothing was lost. -/
theorem mul_lost {a b p : Int} (hb : -9223372036854775808 ≤ b) (hb' : b ≤ 9223372036854775807) (h0 : b ≠ 0)
    (k : Int) (hp : p = a * b + 18446744073709551616 * k) (hq : p.tdiv b = a) : k = 0 := by
  have h := Int.mul_tdiv_add_tmod p b
  have hm := tmod_abs p h0
  rw [hq, Int.mul_comm] at h
  rcases Int.lt_or_gt_of_ne h0 with hb0 | hb0
  · have := hm.2 hb0
    omega
  · have := hm.1 hb0
    omega
theorem size_mul {a b : Int} (L : Int) (hL : 0 ≤ L) (hb : b ≠ 0) : (a.natAbs : Int) ≤ L / (b.natAbs : Int) ↔ ((a * b).natAbs : Int) ≤ L := by
  obtain ⟨k, rfl⟩ := Int.eq_ofNat_of_zero_le hL
  rw [← Int.natCast_ediv, Int.ofNat_le, Int.ofNat_le, Int.natAbs_mul, Nat.le_div_iff_mul_le (by omega)]
theorem mul_pos_of_same {a b : Int} (h : a < 0 ↔ b < 0) : 0 ≤ a * b := by
  by_cases ha : a < 0
  · exact Int.mul_nonneg_of_nonpos_of_nonpos (by omega) (by omega)
  · exact Int.mul_nonneg (by omega) (by omega)
theorem mul_neg_of_diff {a b : Int} (h : ¬ (a < 0 ↔ b < 0)) : a * b ≤ 0 := by
  by_cases ha : a < 0
  · exact Int.mul_nonpos_of_nonpos_of_nonneg (by omega) (by omega)
  · exact Int.mul_nonpos_of_nonneg_of_nonpos (by omega) (by omega)

/-! ### decimal notation -/

/-- a decimal digit -/
def isDig (c : UInt8) : Bool := 48 ≤ c && c ≤ 57
/-- the notation of an integer that is not negative -/
def whole (l : List UInt8) : Bool := l.all isDig && (l == [48] || (l != [] && l.head? != some 48))
/-- the number of a row of digits -/
def val (l : List UInt8) : Nat := l.foldl (fun v c => v * 10 + (c.toNat - 48)) 0

theorem val_snoc (l : List UInt8) (c : UInt8) : val (l ++ [c]) = val l * 10 + (c.toNat - 48) := by
  unfold val; rw [List.foldl_append]; rfl
theorem foldl_ge (l : List UInt8) : ∀ v : Nat, v ≤ l.foldl (fun v c => v * 10 + (c.toNat - 48)) v := by
  induction l with
  | nil => intro v; exact Nat.le_refl _
  | cons c l ih => intro v; exact Nat.le_trans (show v ≤ v * 10 + (c.toNat - 48) by omega) (ih _)
theorem val_take_le (l : List UInt8) (k : Nat) : val (l.take k) ≤ val l := by
  have h : val l = val (l.take k ++ l.drop k) := by rw [List.take_append_drop]
  rw [h]
  unfold val
  rw [List.foldl_append]
  exact foldl_ge _ _
theorem take_snoc (l : List UInt8) (k : Nat) (h : k < l.length) : l.take (k + 1) = l.take k ++ [l[k]] := by
  rw [List.take_succ_eq_append_getElem h]

open Go.Lib (decDigits itoa)

theorem toNat_dig {i : Nat} (h : i < 10) : (UInt8.ofNat (48 + i)).toNat = 48 + i := by
  simp; omega
theorem dec_dig (u : Nat) : (decDigits u).all isDig = true := by
  induction u using Nat.strongRecOn with
  | _ u ih =>
    have one : ∀ i, i < 10 → isDig (UInt8.ofNat (48 + i)) = true := by decide
    rw [decDigits]
    split
    · simpa using one u (by assumption)
    · rw [List.all_append, ih (u / 10) (by omega)]
      simpa using one (u % 10) (Nat.mod_lt _ (by decide))
theorem dec_val (u : Nat) : val (decDigits u) = u := by
  induction u using Nat.strongRecOn with
  | _ u ih =>
    rw [decDigits]
    split
    · rename_i h
      have := toNat_dig h
      show (0 * 10 + ((UInt8.ofNat (48 + u)).toNat - 48)) = u
      rw [this]; omega
    · rw [val_snoc, ih (u / 10) (by omega), toNat_dig (Nat.mod_lt _ (by decide))]
      omega
theorem dec_head (u : Nat) : decDigits u ≠ [] ∧ (0 < u → (decDigits u).head? ≠ some 48) := by
  induction u using Nat.strongRecOn with
  | _ u ih =>
    rw [decDigits]
    split
    · rename_i h
      refine ⟨by simp, fun h0 => ?_⟩
      have one : ∀ i, i < 10 → 0 < i → UInt8.ofNat (48 + i) ≠ 48 := by decide
      simpa using one u h h0
    · have h := ih (u / 10) (by omega)
      refine ⟨by simp, fun _ => ?_⟩
      rw [List.head?_append]
      cases hd : (decDigits (u / 10)).head? with
      | none => exact absurd (List.head?_eq_none_iff.1 hd) h.1
      | some c => have := h.2 (by omega); rw [hd] at this; simpa using this
theorem dec_zero : decDigits 0 = [48] := by rw [decDigits]; rfl
theorem dec_whole (u : Nat) : whole (decDigits u) = true := by
  unfold whole
  rw [dec_dig]
  by_cases h : u = 0
  · subst h; rw [dec_zero]; rfl
  · have := dec_head u
    have h2 := this.2 (by omega)
    simp [this.1, h2]
theorem dec_48 {u : Nat} (h : 0 < u) : decDigits u ≠ [48] := by
  intro h2
  have := (dec_head u).2 h
  rw [h2] at this
  exact this rfl
/-- no notation of a number begins with a minus sign -/
theorem dec_no45 (u : Nat) : (decDigits u).head? ≠ some 45 := by
  have h := dec_dig u
  intro h2
  match hd : decDigits u with
  | [] => rw [hd] at h2; cases h2
  | c :: r =>
    rw [hd] at h2 h
    have : c = 45 := by simpa using h2
    subst this
    simp [isDig] at h
theorem dig_bd {c : UInt8} (h : isDig c = true) : 48 ≤ c.toNat ∧ c.toNat ≤ 57 := by
  unfold isDig at h
  simp [UInt8.le_iff_toNat_le] at h
  exact h
/-- the digits of the number of a notation are the notation -/
theorem dec_of_val (n : Nat) : ∀ l : List UInt8, l.length = n + 1 → l.all isDig = true → l.head? ≠ some 48 → 1 ≤ val l ∧ decDigits (val l) = l := by
  induction n with
  | zero =>
    intro l hl hd hh
    match l, hl with
    | [c], _ =>
      have hb := dig_bd (c := c) (by simpa using hd)
      have h48 : c ≠ 48 := by simpa using hh
      have h1 : c.toNat ≠ 48 := fun h => h48 (UInt8.toNat_inj.1 h)
      have hv : val [c] = c.toNat - 48 := by show 0 * 10 + (c.toNat - 48) = _; omega
      refine ⟨by omega, ?_⟩
      rw [hv, decDigits, dif_pos (by omega)]
      rw [show 48 + (c.toNat - 48) = c.toNat by omega]
      simp
  | succ n ih =>
    intro l hl hd hh
    obtain ⟨m, c, rfl⟩ : ∃ m c, l = m ++ [c] := ⟨l.dropLast, l.getLast (by intro h; subst h; simp at hl), (List.dropLast_concat_getLast _).symm⟩
    simp at hl
    rw [List.all_append] at hd
    have hd' : m.all isDig = true ∧ isDig c = true := by simpa using hd
    have hh' : m.head? ≠ some 48 := by
      match m, hl with
      | x :: r, _ => simpa using hh
    obtain ⟨h1, h2⟩ := ih m hl hd'.1 hh'
    have hb := dig_bd hd'.2
    rw [val_snoc]
    refine ⟨by omega, ?_⟩
    rw [decDigits, dif_neg (by omega)]
    rw [show (val m * 10 + (c.toNat - 48)) / 10 = val m by omega, show (val m * 10 + (c.toNat - 48)) % 10 = c.toNat - 48 by omega, h2]
    rw [show 48 + (c.toNat - 48) = c.toNat by omega]
    simp
theorem whole_dec {l : List UInt8} (h : whole l = true) : decDigits (val l) = l ∧ (l ≠ [48] → 1 ≤ val l) ∧ l ≠ [] := by
  unfold whole at h
  simp only [Bool.and_eq_true, Bool.or_eq_true, beq_iff_eq, bne_iff_ne] at h
  obtain ⟨hd, hc⟩ := h
  rcases hc with rfl | ⟨hn, hh⟩
  · refine ⟨?_, fun h => absurd rfl h, by simp⟩
    show decDigits 0 = [48]
    exact dec_zero
  · have := dec_of_val (l.length - 1) l (by have := List.length_pos_iff.2 hn; omega) hd hh
    exact ⟨this.2, fun _ => this.1, hn⟩

/-- whether a text begins with a minus sign -/
def minus (l : List UInt8) : Bool := l.head? == some 45
/-- the text behind a minus sign -/
def body (l : List UInt8) : List UInt8 := if minus l then l.tail else l
/-- whether a text is the notation of an integer, perhaps of one that is too large -/
def good (l : List UInt8) : Bool := whole (body l) && !(minus l && body l == [48])
/-- the integer of a notation -/
def num (l : List UInt8) : Int := if minus l then -(val (body l) : Int) else val (body l)
/-- the value that Parse returns -/
def pV (l : List UInt8) : Int := if good l then vR (num l) else 0
/-- the error that Parse returns -/
def pE (l : List UInt8) : Int := if good l then eR (num l) else 5
theorem pV_bd (l : List UInt8) : -9223372036854775808 ≤ pV l ∧ pV l ≤ 9223372036854775807 := by
  unfold pV; split
  · exact vR_bd _
  · omega

theorem itoa_minus (n : Int) : minus (itoa n) = decide (n < 0) := by
  unfold itoa minus
  split
  · simp [*]
  · have := dec_no45 n.toNat
    rw [decide_eq_false (by assumption)]
    simpa using this
theorem itoa_body (n : Int) : body (itoa n) = decDigits n.natAbs := by
  unfold body
  rw [itoa_minus]
  unfold itoa
  by_cases h : n < 0
  · simp [h]
  · rw [if_neg h, if_neg (by simpa using h), show n.natAbs = n.toNat by omega]
theorem itoa_num (n : Int) : num (itoa n) = n := by
  unfold num
  rw [itoa_minus, itoa_body, dec_val]
  by_cases h : n < 0
  · simp [h]; omega
  · simp [h]; omega
theorem itoa_good (n : Int) : good (itoa n) = true := by
  unfold good
  rw [itoa_minus, itoa_body, dec_whole]
  by_cases h : n < 0
  · have := dec_48 (u := n.natAbs) (by omega)
    simp [h, this]
  · simp [h]
/-- parsing what was formatted -/
theorem parse_itoa {n : Int} (h : -9223372036854775808 ≤ n ∧ n ≤ 9223372036854775807) : pV (itoa n) = n ∧ pE (itoa n) = 0 := by
  unfold pV pE
  rw [itoa_good, itoa_num]
  exact ⟨vR_in h, eR_in h⟩
/-- formatting what was parsed -/
theorem itoa_parse {l : List UInt8} (h : pE l = 0) : itoa (pV l) = l := by
  unfold pE at h
  split at h
  · rename_i hg
    have hin : -9223372036854775808 ≤ num l ∧ num l ≤ 9223372036854775807 := by
      unfold eR at h; split at h
      · assumption
      · omega
    unfold pV
    rw [if_pos hg, vR_in hin]
    unfold good at hg
    simp only [Bool.and_eq_true, Bool.not_eq_true', Bool.and_eq_false_iff, beq_eq_false_iff_ne] at hg
    obtain ⟨hw, hz⟩ := hg
    obtain ⟨h1, h2, h3⟩ := whole_dec hw
    unfold num
    cases hm : minus l
    · have hb : body l = l := by unfold body; rw [hm]; rfl
      rw [hb] at h1 ⊢
      have e : (if false = true then -(val l : Int) else (val l : Int)) = (val l : Int) := if_neg (by simp)
      rw [e]
      unfold itoa
      rw [if_neg (by omega)]
      simpa using h1
    · have hb : l = 45 :: body l := by
        unfold body; rw [hm, if_pos rfl]
        unfold minus at hm
        match l with
        | [] => cases hm
        | c :: r =>
          have : c = 45 := by simpa using hm
          subst this; rfl
      have hz' : body l ≠ [48] := by rcases hz with hz | hz
                                     · rw [hm] at hz; cases hz
                                     · exact hz
      have := h2 hz'
      have e : (if true = true then -(val (body l) : Int) else (val (body l) : Int)) = -(val (body l) : Int) := if_pos rfl
      rw [e]
      unfold itoa
      rw [if_pos (by omega), Int.natAbs_neg, Int.natAbs_natCast, h1]
      exact hb.symm
  · omega
end Go.Proofs.YtbmdadhbkdkgmaaDoor
