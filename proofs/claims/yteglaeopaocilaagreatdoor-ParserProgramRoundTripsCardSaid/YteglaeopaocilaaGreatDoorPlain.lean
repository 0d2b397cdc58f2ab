/-
  Plain mathematics of layer 1, without the program: the value and the error of an exact result, the quotient and the remainder that are rounded toward negative infinity, and the decimal notation of integers.
-/
import Derived.Lib.ItoaNum
namespace Go.Proofs.YteglaeopaocilaaGreatDoor

/-- the value of an exact result: itself if it is a 64-bit integer, otherwise 0 -/
def vR (n : Int) : Int := if -9223372036854775808 ≤ n ∧ n ≤ 9223372036854775807 then n else 0
/-- the error of an exact result: 0, or 3 if it is no 64-bit integer -/
def eR (n : Int) : Int := if -9223372036854775808 ≤ n ∧ n ≤ 9223372036854775807 then 0 else 3
theorem vR_in {n : Int} (h : -9223372036854775808 ≤ n ∧ n ≤ 9223372036854775807) : vR n = n := if_pos h
theorem eR_in {n : Int} (h : -9223372036854775808 ≤ n ∧ n ≤ 9223372036854775807) : eR n = 0 := if_pos h
theorem vR_out {n : Int} (h : ¬ (-9223372036854775808 ≤ n ∧ n ≤ 9223372036854775807)) : vR n = 0 := if_neg h
theorem eR_out {n : Int} (h : ¬ (-9223372036854775808 ≤ n ∧ n ≤ 9223372036854775807)) : eR n = 3 := if_neg h
theorem vR_bd (n : Int) : -9223372036854775808 ≤ vR n ∧ vR n ≤ 9223372036854775807 := by
  unfold vR; split <;> omega

/-! ### quotient and remainder -/

/-! ### products -/

/-! ### decimal notation -/

/-- a decimal digit -/
def isDig (c : UInt8) : Bool := 48 ≤ c && c ≤ 57
/-- the notation of an integer that is not negative -/
def whole (l : List UInt8) : Bool := l.all isDig && (l == [48] || (l != [] && l.head? != some 48))
/-- the number of a row of digits -/
def val (l : List UInt8) : Nat := l.foldl (fun v c => v * 10 + (c.toNat - 48)) 0

theorem val_snoc (l : List UInt8) (c : UInt8) : val (l ++ [c]) = val l * 10 + (c.toNat - 48) := by
  unfold val; rw [List.foldl_append]; rfl
theorem foldl_ge (l : List UInt8) : ∀ v : Nat, v ≤ l.foldl (fun v c => v * 10 + (c.toNat - 48)) v := by
  induction l with
  | nil => intro v; exact Nat.le_refl _
  | cons c l ih => intro v; exact Nat.le_trans (show v ≤ v * 10 + (c.toNat - 48) by omega) (ih _)
theorem val_take_le (l : List UInt8) (k : Nat) : val (l.take k) ≤ val l := by
  have h : val l = val (l.take k ++ l.drop k) := by rw [List.take_append_drop]
  rw [h]
  unfold val
  rw [List.foldl_append]
  exact foldl_ge _ _
theorem take_snoc (l : List UInt8) (k : Nat) (h : k < l.length) : l.take (k + 1) = l.take k ++ [l[k]] := by
  rw [List.take_succ_eq_append_getElem h]

open Go.Lib (decDigits itoa)

theorem toNat_dig {i : Nat} (h : i < 10) : (UInt8.ofNat (48 + i)).toNat = 48 + i := by
  simp; omega
theorem dec_dig (u : Nat) : (decDigits u).all isDig = true := by
  induction u using Nat.strongRecOn with
  | _ u ih =>
    have one : ∀ i, i < 10 → isDig (UInt8.ofNat (48 + i)) = true := by decide
    rw [decDigits]
    split
    · simpa using one u (by assumption)
    · rw [List.all_append, ih (u / 10) (by omega)]
      simpa using one (u % 10) (Nat.mod_lt _ (by decide))
theorem dec_val (u : Nat) : val (decDigits u) = u := by
  induction u using Nat.strongRecOn with
  | _ u ih =>
    rw [decDigits]
    split
    · rename_i h
      have := toNat_dig h
      show (0 * 10 + ((UInt8.ofNat (48 + u)).toNat - 48)) = u
      rw [this]; omega
    · rw [val_snoc, ih (u / 10) (by omega), toNat_dig (Nat.mod_lt _ (by decide))]
      omega
theorem dec_head (u : Nat) : decDigits u ≠ [] ∧ (0 < u → (decDigits u).head? ≠ some 48) := by
  induction u using Nat.strongRecOn with
  | _ u ih =>
    rw [decDigits]
    split
    · rename_i h
      refine ⟨by simp, fun h0 => ?_⟩
      have one : ∀ i, i < 10 → 0 < i → UInt8.ofNat (48 + i) ≠ 48 := by decide
      simpa using one u h h0
    · have h := ih (u / 10) (by omega)
      refine ⟨by simp, fun _ => ?_⟩
      rw [List.head?_append]
      cases hd : (decDigits (u / 10)).head? with
      | none => exact absurd (List.head?_eq_none_iff.1 hd) h.1
      | some c => have := h.2 (by omega); rw [hd] at this; simpa using this
theorem dec_zero : decDigits 0 = [48] := by rw [decDigits]; rfl
theorem dec_whole (u : Nat) : whole (decDigits u) = true := by
  unfold whole
  rw [dec_dig]
  by_cases h : u = 0
  · subst h; rw [dec_zero]; rfl
  · have := dec_head u
    have h2 := this.2 (by omega)
    simp [this.1, h2]
theorem dec_48 {u : Nat} (h : 0 < u) : decDigits u ≠ [48] := by
  intro h2
  have := (dec_head u).2 h
  rw [h2] at this
  exact this rfl
/-- no notation of a number begins with a minus sign -/
theorem dec_no45 (u : Nat) : (decDigits u).head? ≠ some 45 := by
  have h := dec_dig u
  intro h2
  match hd : decDigits u with
  | [] => rw [hd] at h2; cases h2
  | c :: r =>
    rw [hd] at h2 h
    have : c = 45 := by simpa using h2
    subst this
    simp [isDig] at h
theorem dig_bd {c : UInt8} (h : isDig c = true) : 48 ≤ c.toNat ∧ c.toNat ≤ 57 := by
  unfold isDig at h
  simp [UInt8.le_iff_toNat_le] at h
  exact h
/-- the digits of the number of a notation are the notation -/
theorem dec_of_val (n : Nat) : ∀ l : List UInt8, l.length = n + 1 → l.all isDig = true → l.head? ≠ some 48 → 1 ≤ val l ∧ decDigits (val l) = l := by
  induction n with
  | zero =>
    intro l hl hd hh
    match l, hl with
    | [c], _ =>
      have hb := dig_bd (c := c) (by simpa using hd)
      have h48 : c ≠ 48 := by simpa using hh
      have h1 : c.toNat ≠ 48 := fun h => h48 (UInt8.toNat_inj.1 h)
      have hv : val [c] = c.toNat - 48 := by show 0 * 10 + (c.toNat - 48) = _; omega
      refine ⟨by omega, ?_⟩
      rw [hv, decDigits, dif_pos (by omega)]
      rw [show 48 + (c.toNat - 48) = c.toNat by omega]
      simp
  | succ n ih =>
    intro l hl hd hh
    obtain ⟨m, c, rfl⟩ : ∃ m c, l = m ++ [c] := ⟨l.dropLast, l.getLast (by intro h; subst h; simp at hl), (List.dropLast_concat_getLast _).symm⟩
    simp at hl
    rw [List.all_append] at hd
    have hd' : m.all isDig = true ∧ isDig c = true := by simpa using hd
    have hh' : m.head? ≠ some 48 := by
      match m, hl with
      | x :: r, _ => simpa using hh
    obtain ⟨h1, h2⟩ := ih m hl hd'.1 hh'
    have hb := dig_bd hd'.2
    rw [val_snoc]
    refine ⟨by omega, ?_⟩
    rw [decDigits, dif_neg (by omega)]
    rw [show (val m * 10 + (c.toNat - 48)) / 10 = val m by omega, show (val m * 10 + (c.toNat - 48)) % 10 = c.toNat - 48 by omega, h2]
    rw [show 48 + (c.toNat - 48) = c.toNat by omega]
    simp
theorem whole_dec {l : List UInt8} (h : whole l = true) : decDigits (val l) = l ∧ (l ≠ [48] → 1 ≤ val l) ∧ l ≠ [] := by
  unfold whole at h
  simp only [Bool.and_eq_true, Bool.or_eq_true, beq_iff_eq, bne_iff_ne] at h
  obtain ⟨hd, hc⟩ := h
  rcases hc with rfl | ⟨hn, hh⟩
  · refine ⟨?_, fun h => absurd rfl h, by simp⟩
    show decDigits 0 = [48]
    exact dec_zero
  · have := dec_of_val (l.length - 1) l (by have := List.length_pos_iff.2 hn; omega) hd hh
    exact ⟨this.2, fun _ => this.1, hn⟩

/-- whether a text begins with a minus sign -/
def minus (l : List UInt8) : Bool := l.head? == some 45
/-- the text behind a minus sign -/
def body (l : List UInt8) : List UInt8 := if minus l then l.tail else l
/-- whether a text is the notation of an integer, perhaps of one that is too large -/
def good (l : List UInt8) : Bool := whole (body l) && !(minus l && body l == [48])
/-- the integer of a notation -/
def num (l : List UInt8) : Int := if minus l then -(val (body l) : Int) else val (body l)
/-- the value that Parse returns -/
def pV (l : List UInt8) : Int := if good l then vR (num l) else 0
/-- the error that Parse returns -/
def pE (l : List UInt8) : Int := if good l then eR (num l) else 5
theorem pV_bd (l : List UInt8) : -9223372036854775808 ≤ pV l ∧ pV l ≤ 9223372036854775807 := by
  unfold pV; split
  · exact vR_bd _
  · omega

theorem itoa_minus (n : Int) : minus (itoa n) = decide (n < 0) := by
  unfold itoa minus
  split
  · simp [*]
  · have := dec_no45 n.toNat
    rw [decide_eq_false (by assumption)]
    simpa using this
theorem itoa_body (n : Int) : body (itoa n) = decDigits n.natAbs := by
  unfold body
  rw [itoa_minus]
  unfold itoa
  by_cases h : n < 0
  · simp [h]
  · rw [if_neg h, if_neg (by simpa using h), show n.natAbs = n.toNat by omega]
theorem itoa_num (n : Int) : num (itoa n) = n := by
  unfold num
  rw [itoa_minus, itoa_body, dec_val]
  by_cases h : n < 0
  · simp [h]; omega
  · simp [h]; omega
theorem itoa_good (n : Int) : good (itoa n) = true := by
  unfold good
  rw [itoa_minus, itoa_body, dec_whole]
  by_cases h : n < 0
  · have := dec_48 (u := n.natAbs) (by omega)
    simp [h, this]
  · simp [h]
/-- parsing what was formatted -/
theorem parse_itoa {n : Int} (h : -9223372036854775808 ≤ n ∧ n ≤ 9223372036854775807) : pV (itoa n) = n ∧ pE (itoa n) = 0 := by
  unfold pV pE
  rw [itoa_good, itoa_num]
  exact ⟨vR_in h, eR_in h⟩
/-- formatting what was parsed -/
theorem itoa_parse {l : List UInt8} (h : pE l = 0) : itoa (pV l) = l := by
  unfold pE at h
  split at h
  · rename_i hg
    have hin : -9223372036854775808 ≤ num l ∧ num l ≤ 9223372036854775807 := by
      unfold eR at h; split at h
      · assumption
      · omega
    unfold pV
    rw [if_pos hg, vR_in hin]
    unfold good at hg
    simp only [Bool.and_eq_true, Bool.not_eq_true', Bool.and_eq_false_iff, beq_eq_false_iff_ne] at hg
    obtain ⟨hw, hz⟩ := hg
    obtain ⟨h1, h2, h3⟩ := whole_dec hw
    unfold num
    cases hm : minus l
    · have hb : body l = l := by unfold body; rw [hm]; rfl
      rw [hb] at h1 ⊢
      have e : (if false = true then -(val l : Int) else (val l : Int)) = (val l : Int) := if_neg (by simp)
      rw [e]
      unfold itoa
      rw [if_neg (by omega)]
      simpa using h1
    · have hb : l = 45 :: body l := by
        unfold body; rw [hm, if_pos rfl]
        unfold minus at hm
        match l with
        | [] => cases hm
        | c :: r =>
          have : c = 45 := by simpa using hm
          subst this; rfl
      have hz' : body l ≠ [48] := by rcases hz with hz | hz
                                     · rw [hm] at hz; cases hz
                                     · exact hz
      have := h2 hz'
      have e : (if true = true then -(val (body l) : Int) else (val (body l) : Int)) = -(val (body l) : Int) := if_pos rfl
      rw [e]
      unfold itoa
      rw [if_pos (by omega), Int.natAbs_neg, Int.natAbs_natCast, h1]
      exact hb.symm
  · omega
end Go.Proofs.YteglaeopaocilaaGreatDoor
