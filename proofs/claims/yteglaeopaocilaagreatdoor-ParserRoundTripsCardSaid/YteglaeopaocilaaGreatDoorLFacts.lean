/-
  Plain mathematics of layer 7, without the program: tokens are valid and are restored from their texts; joined tokens; texts joined by a line feed.
-/
import Derived.Test.YteglaeopaocilaaGreatDoorLPlain
namespace Go.Proofs.YteglaeopaocilaaGreatDoor.L
open Go.Lib (itoa decDigits)

/-- the text of a token -/
def txt (t : Tok) : Str := if t.k = 3 then itoa t.n else if t.k = 4 then quo t.t else t.t
def valid (t : Tok) : Bool :=
  if t.k = 1 then isName t.t && decide (t.n = 0) else if t.k = 2 then isKw t.t && decide (t.n = 0) else if t.k = 3 then decide (t.t = []) && decide (0 ≤ t.n)
  else if t.k = 4 then decide (t.t.length ≤ 64) && t.t.all prt && decide (t.n = 0) else if t.k = 5 then isMark t.t && decide (t.n = 0) else false
def jn : List Tok → Str
  | [] => []
  | [t] => txt t
  | t :: u :: r => txt t ++ 32 :: jn (u :: r)
/-- what Join returns -/
def join (l : List Tok) : Str × Int := if l.all valid then (if 16384 < (jn l).length then ([], 2) else (jn l, 0)) else ([], 1)
def held (t : Tok) : Prop := -9223372036854775808 ≤ t.n ∧ t.n ≤ 9223372036854775807

/-! ### bytes -/

theorem letter_iff {c : UInt8} : letter c = true ↔ 97 ≤ c.toNat ∧ c.toNat ≤ 122 := by unfold letter; simp
theorem digit_iff {c : UInt8} : digit c = true ↔ 48 ≤ c.toNat ∧ c.toNat ≤ 57 := by unfold digit; simp
theorem part_iff {c : UInt8} : part c = true ↔ (97 ≤ c.toNat ∧ c.toNat ≤ 122) ∨ (48 ≤ c.toNat ∧ c.toNat ≤ 57) ∨ c.toNat = 95 := by
  unfold part; simp [letter_iff, digit_iff, or_assoc]
theorem prt_iff {c : UInt8} : prt c = true ↔ 32 ≤ c.toNat ∧ c.toNat ≤ 126 := by unfold prt; simp
theorem part_prt {c : UInt8} (h : part c = true) : prt c = true := by rw [part_iff] at h; rw [prt_iff]; omega
theorem isDig_digit {c : UInt8} (h : isDig c = true) : digit c = true := by have := dig_bd h; rw [digit_iff]; omega
theorem all_imp {p q : UInt8 → Bool} {l : Str} (h : ∀ c, p c = true → q c = true) (hl : l.all p = true) : l.all q = true := by
  rw [List.all_eq_true] at hl ⊢; exact fun x hx => h x (hl x hx)
theorem esc_prt : ∀ {s : Str}, s.all prt = true → (esc s).all prt = true
  | [], _ => rfl
  | c :: s, h => by
    rw [List.all_cons, Bool.and_eq_true] at h
    rw [esc]
    split
    · rw [List.all_cons, List.all_cons, h.1, esc_prt h.2]; rfl
    · rw [List.all_cons, h.1, esc_prt h.2]; rfl
theorem esc_len : ∀ s : Str, (esc s).length ≤ 2 * s.length
  | [] => Nat.le_refl _
  | c :: s => by
    have := esc_len s
    rw [esc]
    split <;> simp only [List.length_cons] <;> omega
theorem nf_prt : ∀ {l : Str}, l.all prt = true → nf l = 0
  | [], _ => rfl
  | c :: l, h => by
    rw [List.all_cons, Bool.and_eq_true] at h
    unfold nf
    rw [List.countP_cons, if_neg, Nat.add_zero]
    · exact nf_prt h.2
    · have := prt_iff.1 h.1
      simp; omega
theorem nf_app (a b : Str) : nf (a ++ b) = nf a + nf b := List.countP_append
/-! ### a token's text -/

theorem kw_all : ∀ w ∈ keywords, headL w = true ∧ w.all part = true ∧ 1 ≤ w.length ∧ w.length ≤ 16 := by decide
theorem word_kw {w : Str} (h : isKw w = true) : word w = (⟨2, w, 0, 0⟩, 0) := by
  unfold word
  rw [if_pos (kw_all w (of_decide_eq_true h)).1, if_pos h]
theorem isName_iff {w : Str} : isName w = true ↔ w.length ≤ 16 ∧ headL w = true ∧ w.all part = true ∧ isKw w = false := by
  unfold isName; simp [Bool.and_eq_true, and_assoc]
theorem word_name {w : Str} (h : isName w = true) : word w = (⟨1, w, 0, 0⟩, 0) := by
  obtain ⟨_, h2, _, h4⟩ := isName_iff.1 h
  unfold word
  rw [if_pos h2, if_neg (by rw [h4]; decide), if_pos h]
theorem itoa_nat {n : Int} (h : 0 ≤ n) : itoa n = decDigits n.natAbs := by
  unfold itoa; rw [if_neg (by omega)]; congr 1; omega
theorem dec_cons (u : Nat) : ∃ c r, decDigits u = c :: r ∧ digit c = true ∧ (c :: r).all part = true := by
  have h1 := dec_dig u
  have h2 := (dec_head u).1
  cases hd : decDigits u with
  | nil => exact absurd hd h2
  | cons c r =>
    rw [hd] at h1
    have h3 := h1
    rw [List.all_cons, Bool.and_eq_true] at h3
    exact ⟨c, r, rfl, isDig_digit h3.1, all_imp (fun c h => by have := digit_iff.1 (isDig_digit h); rw [part_iff]; omega) h1⟩
theorem word_int {n : Int} (h : 0 ≤ n) (h2 : n ≤ 9223372036854775807) : word (itoa n) = (⟨3, [], n, 0⟩, 0) := by
  obtain ⟨p1, p2⟩ := parse_itoa (n := n) ⟨by omega, h2⟩
  have hh : headL (itoa n) = false := by
    obtain ⟨c, r, e, hd, _⟩ := dec_cons n.natAbs
    rw [itoa_nat h, e]
    show letter c = false
    have := digit_iff.1 hd
    cases hl : letter c
    · rfl
    · have := letter_iff.1 hl; omega
  unfold word
  rw [if_neg (by rw [hh]; decide), if_pos p2, p1]
/-- what valid tokens' texts look like -/
theorem txt_head {t : Tok} (h : valid t = true) : ∃ c r, txt t = c :: r ∧ c.toNat ≠ 35 ∧ c.toNat ≠ 32 ∧ c.toNat ≠ 9 ∧ c.toNat ≠ 10 ∧ (txt t).all prt = true := by
  unfold valid at h
  unfold txt
  by_cases k1 : t.k = 1
  · rw [if_pos k1, Bool.and_eq_true] at h
    rw [if_neg (by omega), if_neg (by omega)]
    obtain ⟨_, h2, h3, _⟩ := isName_iff.1 h.1
    cases ht : t.t with
    | nil => rw [ht] at h2; cases h2
    | cons c r =>
      rw [ht] at h2 h3
      have := letter_iff.1 h2
      exact ⟨c, r, rfl, by omega, by omega, by omega, by omega, all_imp (fun _ => part_prt) h3⟩
  · rw [if_neg k1] at h
    by_cases k2 : t.k = 2
    · rw [if_pos k2, Bool.and_eq_true] at h
      rw [if_neg (by omega), if_neg (by omega)]
      obtain ⟨h2, h3, _⟩ := kw_all _ (of_decide_eq_true h.1)
      cases ht : t.t with
      | nil => rw [ht] at h2; cases h2
      | cons c r =>
        rw [ht] at h2 h3
        have := letter_iff.1 h2
        exact ⟨c, r, rfl, by omega, by omega, by omega, by omega, all_imp (fun _ => part_prt) h3⟩
    · rw [if_neg k2] at h
      by_cases k3 : t.k = 3
      · rw [if_pos k3, Bool.and_eq_true] at h
        rw [if_pos k3, itoa_nat (of_decide_eq_true h.2)]
        obtain ⟨c, r, e, hd, hp⟩ := dec_cons t.n.natAbs
        rw [e]
        have := digit_iff.1 hd
        exact ⟨c, r, rfl, by omega, by omega, by omega, by omega, all_imp (fun _ => part_prt) hp⟩
      · rw [if_neg k3] at h
        rw [if_neg k3]
        by_cases k4 : t.k = 4
        · rw [if_pos k4, Bool.and_eq_true, Bool.and_eq_true] at h
          rw [if_pos k4]
          refine ⟨34, _, rfl, by decide, by decide, by decide, by decide, ?_⟩
          unfold quo
          rw [List.all_cons, List.all_append, esc_prt h.1.2]; rfl
        · rw [if_neg k4] at h
          rw [if_neg k4]
          by_cases k5 : t.k = 5
          · rw [if_pos k5, Bool.and_eq_true] at h
            have hm := of_decide_eq_true h.1
            have key : ∀ m ∈ marks, ∃ c r, m = c :: r ∧ c.toNat ≠ 35 ∧ c.toNat ≠ 32 ∧ c.toNat ≠ 9 ∧ c.toNat ≠ 10 := by
              intro m hm
              simp only [marks, List.mem_cons, List.not_mem_nil, or_false] at hm
              rcases hm with rfl | rfl | rfl | rfl | rfl | rfl | rfl | rfl | rfl | rfl | rfl | rfl | rfl | rfl | rfl | rfl | rfl | rfl | rfl | rfl <;> exact ⟨_, _, rfl, by decide, by decide, by decide, by decide⟩
            obtain ⟨c, r, e, h1, h2, h3, h4⟩ := key _ hm
            exact ⟨c, r, e, h1, h2, h3, h4, (marks_all _ hm).2.2.2⟩
          · rw [if_neg k5] at h; cases h
theorem tok_word {c : UInt8} {r : Str} (h1 : c.toNat ≠ 34) (h2 : part c = true) : tok (c :: r) = ((word ((c :: r).takeWhile part)).1, (c :: r).dropWhile part, (word ((c :: r).takeWhile part)).2) := by
  unfold tok; simp only; rw [if_neg h1, if_pos h2]
/-- what follows a token in these texts: nothing, a space or a line feed -/
def Sep (r : Str) : Prop := r = [] ∨ ∃ c z, r = c :: z ∧ (c = 32 ∨ c = 10)
theorem take_sep {w r : Str} (hw : w.all part = true) (hr : ∀ c z, r = c :: z → part c = false) : (w ++ r).takeWhile part = w ∧ (w ++ r).dropWhile part = r := by
  have h1 : ∀ a ∈ w, part a = true := List.all_eq_true.1 hw
  have h2 : r.takeWhile part = [] ∧ r.dropWhile part = r := by
    cases r with
    | nil => exact ⟨rfl, rfl⟩
    | cons c z =>
      have := hr c z rfl
      rw [List.takeWhile_cons, List.dropWhile_cons, if_neg (by rw [this]; decide), if_neg (by rw [this]; decide)]
      exact ⟨rfl, rfl⟩
  rw [List.takeWhile_append_of_pos h1, List.dropWhile_append_of_pos h1, h2.1, h2.2, List.append_nil]
  exact ⟨rfl, rfl⟩
theorem tok_words {w r : Str} (hw : w.all part = true) (hn : w ≠ []) (hr : ∀ c z, r = c :: z → part c = false) : tok (w ++ r) = ((word w).1, r, (word w).2) := by
  cases w with
  | nil => exact absurd rfl hn
  | cons c w =>
    have hc : part c = true := by rw [List.all_cons, Bool.and_eq_true] at hw; exact hw.1
    have := part_iff.1 hc
    obtain ⟨g1, g2⟩ := take_sep hw hr
    rw [List.cons_append, tok_word (by omega) hc, ← List.cons_append, g1, g2]
theorem tok_mark {m r : Str} (hm : m ∈ marks) (hr : Sep r) : tok (m ++ r) = (⟨5, m, 0, 0⟩, r, 0) := by
  simp only [marks, List.mem_cons, List.not_mem_nil, or_false] at hm
  rcases hr with rfl | ⟨c, z, rfl, rfl | rfl⟩ <;> rcases hm with rfl | rfl | rfl | rfl | rfl | rfl | rfl | rfl | rfl | rfl | rfl | rfl | rfl | rfl | rfl | rfl | rfl | rfl | rfl | rfl <;> rfl
/-- (B) a token that is read is valid, and its text is what was read -/
theorem tok_back {l : Str} (he : (tok l).2.2 = 0) : valid (tok l).1 = true ∧ l = txt (tok l).1 ++ (tok l).2.1 ∧ (tok l).1.line = 0 ∧ -9223372036854775808 ≤ (tok l).1.n ∧ (tok l).1.n ≤ 9223372036854775807 := by
  cases l with
  | nil => exact absurd he (by decide)
  | cons c r =>
    by_cases h1 : c.toNat = 34
    · have ht : tok (c :: r) = (⟨4, (litr [] r).1, 0, 0⟩, (litr [] r).2.1, (litr [] r).2.2) := by unfold tok; simp only; rw [if_pos h1]
      rw [ht] at he ⊢
      simp only at he ⊢
      obtain ⟨x, g1, g2, g3, g4⟩ := litr_ok _ r [] (litr [] r).1 (litr [] r).2.1 (Nat.le_refl _) (Nat.zero_le _) (by rw [← he])
      rw [List.nil_append] at g1
      rw [g1] at g4 ⊢
      obtain rfl : c = 34 := UInt8.toNat_inj.1 h1
      refine ⟨?_, ?_, by first | rfl | trivial, by first | decide | (show (-9223372036854775808 : Int) ≤ 0; decide), by first | decide | (show (0 : Int) ≤ 9223372036854775807; decide)⟩
      · simp [valid, g3, g4]
      · simp only [txt, quo]
        simp
        exact g2
    · by_cases h2 : part c = true
      · rw [tok_word h1 h2] at he ⊢
        have hw := List.takeWhile_append_dropWhile (p := part) (l := c :: r)
        have hall : ((c :: r).takeWhile part).all part = true := List.all_takeWhile
        have hcons : (c :: r).takeWhile part = c :: r.takeWhile part := by rw [List.takeWhile_cons, if_pos h2]
        generalize (c :: r).dropWhile part = rest at he hw ⊢
        generalize (c :: r).takeWhile part = w at he hw hall hcons ⊢
        simp only at he ⊢
        rw [← hw]
        unfold word at he ⊢
        cases hh : headL w
        · rw [hh] at he
          rw [if_neg (by decide)] at he ⊢
          by_cases hp : pE w = 0
          · rw [if_pos hp]
            have hi := itoa_parse hp
            have hpos : 0 ≤ pV w := by
              have hm := itoa_minus (pV w)
              rw [hi] at hm
              have : minus w = false := by
                rw [hcons]
                unfold minus
                have := part_iff.1 h2
                simp
                intro e
                rw [e] at this
                revert this; decide
              rw [this] at hm
              have := of_decide_eq_false hm.symm
              omega
            refine ⟨?_, ?_, by first | rfl | trivial, (pV_bd w).1, (pV_bd w).2⟩
            · simp [valid, hpos]
            · simp [txt, hi]
          · rw [if_neg hp] at he; exact absurd he hp
        · rw [hh] at he
          rw [if_pos rfl] at he ⊢
          cases hk : isKw w
          · rw [hk] at he
            rw [if_neg (by decide)] at he ⊢
            cases hn : isName w
            · rw [hn] at he; simp at he
            · rw [if_pos rfl]
              refine ⟨?_, ?_, by first | rfl | trivial, by first | decide | (show (-9223372036854775808 : Int) ≤ 0; decide), by first | decide | (show (0 : Int) ≤ 9223372036854775807; decide)⟩
              · simp [valid, hn]
              · simp [txt]
          · rw [if_pos rfl]
            refine ⟨?_, ?_, by first | rfl | trivial, by first | decide | (show (-9223372036854775808 : Int) ≤ 0; decide), by first | decide | (show (0 : Int) ≤ 9223372036854775807; decide)⟩
            · simp [valid, hk]
            · simp [txt]
      · have ht : tok (c :: r) = match mark (c :: r) with
            | some m => (⟨5, m, 0, 0⟩, (c :: r).drop m.length, 0)
            | none => (noTok, [], 5) := by unfold tok; simp only; rw [if_neg h1, if_neg h2]; rfl
        rw [ht] at he ⊢
        cases hm : mark (c :: r) with
        | none => rw [hm] at he; simp at he
        | some m =>
          obtain ⟨g1, z, g2⟩ := mark_some hm
          simp only
          refine ⟨?_, ?_, by first | rfl | trivial, by first | decide | (show (-9223372036854775808 : Int) ≤ 0; decide), by first | decide | (show (0 : Int) ≤ 9223372036854775807; decide)⟩
          · simp [valid, isMark, g1]
          · simp only [txt]
            rw [if_neg (by decide), if_neg (by decide), ← g2, List.drop_left]
end Go.Proofs.YteglaeopaocilaaGreatDoor.L
