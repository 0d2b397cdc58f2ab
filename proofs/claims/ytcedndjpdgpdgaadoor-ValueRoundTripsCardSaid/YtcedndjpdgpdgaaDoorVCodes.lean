/-
  Plain mathematics of layer 5, without the program: the encodings of values.
-/
import Derived.Test.YtcedndjpdgpdgaaDoorVPlain
import Derived.Test.YtcedndjpdgpdgaaDoorWFacts
namespace Go.Proofs.YtcedndjpdgpdgaaDoor.V
open Go.Proofs.YtcedndjpdgpdgaaDoor.W
open Go.Lib (uvarint zigzag unzigzag)

/-- the encoding of a value -/
def enc (v : Val) : List UInt8 := if v.k = 1 then uvarint 1 ++ intText v.n else if v.k = 2 then uvarint 2 ++ text v.s else uvarint 0
/-- what Decode returns: the value, the offset behind it, the error -/
def ds (l : List UInt8) (at_ : Int) : Val × Int × Int :=
  if tE l at_ ≠ 0 then (⟨0, 0, []⟩, 0, tE l at_)
  else if tV l at_ = 0 then (⟨0, 0, []⟩, tN l at_, 0)
  else if tV l at_ = 1 then (if tE l (tN l at_) ≠ 0 then (⟨0, 0, []⟩, 0, tE l (tN l at_)) else (⟨1, iV l (tN l at_), []⟩, tN l (tN l at_), 0))
  else if tV l at_ = 2 then (if xE l (tN l at_) 64 ≠ 0 then (⟨0, 0, []⟩, 0, xE l (tN l at_) 64) else if plain (xV l (tN l at_) 64) then (⟨2, 0, xV l (tN l at_) 64⟩, xN l (tN l at_) 64, 0) else (⟨0, 0, []⟩, 0, 5))
  else (⟨0, 0, []⟩, 0, 5)
theorem ds_err {l : List UInt8} {a : Int} (h : tE l a ≠ 0) : ds l a = (⟨0, 0, []⟩, 0, tE l a) := if_pos h
theorem ds_nil {l : List UInt8} {a : Int} (h : tE l a = 0) (h2 : tV l a = 0) : ds l a = (⟨0, 0, []⟩, tN l a, 0) := by
  unfold ds; rw [if_neg (by omega), if_pos h2]
theorem ds_int {l : List UInt8} {a : Int} (h : tE l a = 0) (h2 : tV l a = 1) : ds l a = if tE l (tN l a) ≠ 0 then (⟨0, 0, []⟩, 0, tE l (tN l a)) else (⟨1, iV l (tN l a), []⟩, tN l (tN l a), 0) := by
  unfold ds; rw [if_neg (by omega), if_neg (by omega), if_pos h2]
theorem ds_str {l : List UInt8} {a : Int} (h : tE l a = 0) (h2 : tV l a = 2) : ds l a = if xE l (tN l a) 64 ≠ 0 then (⟨0, 0, []⟩, 0, xE l (tN l a) 64) else if plain (xV l (tN l a) 64) then (⟨2, 0, xV l (tN l a) 64⟩, xN l (tN l a) 64, 0) else (⟨0, 0, []⟩, 0, 5) := by
  unfold ds; rw [if_neg (by omega), if_neg (by omega), if_neg (by omega), if_pos h2]
theorem ds_bad {l : List UInt8} {a : Int} (h : tE l a = 0) (h0 : tV l a ≠ 0) (h1 : tV l a ≠ 1) (h2 : tV l a ≠ 2) : ds l a = (⟨0, 0, []⟩, 0, 5) := by
  unfold ds; rw [if_neg (by omega), if_neg h0, if_neg h1, if_neg h2]
theorem zig_lt {n : Int} (h0 : -9223372036854775808 ≤ n) (h1 : n ≤ 9223372036854775807) : zigzag n < 18446744073709551616 := by
  unfold Lib.zigzag
  split <;> omega
/-- (P5.5, P5.6) A valid value is restored from its encoding, whatever follows it. -/
theorem ds_enc {v : Val} (h : valid v = true) (h0 : -9223372036854775808 ≤ v.n) (h1 : v.n ≤ 9223372036854775807) (rest : List UInt8) : ds (enc v ++ rest) 0 = (v, ((enc v).length : Int), 0) := by
  obtain ⟨k, n, s⟩ := v
  rcases valid_iff.1 h with ⟨hk, hn, hs⟩ | ⟨hk, hs⟩ | ⟨hk, hn, hs⟩
  · simp only at hk hn hs
    subst hk hn hs
    have e : enc ⟨0, 0, []⟩ = uvarint 0 := rfl
    rw [e]
    obtain ⟨e1, e2, e3⟩ := enc_at [] rest (x := 0) (by decide)
    rw [List.nil_append] at e1 e2 e3
    have l0 : (([] : List UInt8).length : Int) = 0 := rfl
    rw [l0] at e1 e2 e3
    rw [ds_nil e2 e1, e3]
    simp
  · simp only at hk hs h0 h1
    subst hk hs
    have e : enc ⟨1, n, []⟩ = uvarint 1 ++ uvarint (zigzag n) := rfl
    rw [e, List.append_assoc]
    obtain ⟨e1, e2, e3⟩ := enc_at [] (uvarint (zigzag n) ++ rest) (x := 1) (by decide)
    obtain ⟨f1, f2, f3⟩ := enc_at (uvarint 1) rest (x := zigzag n) (zig_lt h0 h1)
    rw [List.nil_append] at e1 e2 e3
    have l0 : (([] : List UInt8).length : Int) = 0 := rfl
    rw [l0] at e1 e2 e3
    have e3' : tN (uvarint 1 ++ (uvarint (zigzag n) ++ rest)) 0 = ((uvarint 1).length : Int) := by rw [e3]; simp
    rw [ds_int e2 e1, e3', if_neg (by rw [f2]; decide), f3]
    have hi : iV (uvarint 1 ++ (uvarint (zigzag n) ++ rest)) ((uvarint 1).length : Int) = n := by
      unfold iV
      rw [f1, Int.toNat_natCast, unz_back]
    rw [hi, List.length_append]
  · simp only at hk hn hs
    subst hk hn
    obtain ⟨hl, hp⟩ := plain_iff.1 hs
    have e : enc ⟨2, 0, s⟩ = uvarint 2 ++ text s := rfl
    rw [e, List.append_assoc]
    obtain ⟨e1, e2, e3⟩ := enc_at [] (text s ++ rest) (x := 2) (by decide)
    obtain ⟨f1, f2, f3, _⟩ := text_at (uvarint 2) rest s (by omega) (m := 64) (by omega)
    rw [List.nil_append] at e1 e2 e3
    have l0 : (([] : List UInt8).length : Int) = 0 := rfl
    rw [l0] at e1 e2 e3
    have e3' : tN (uvarint 2 ++ (text s ++ rest)) 0 = ((uvarint 2).length : Int) := by rw [e3]; simp
    rw [ds_str e2 e1, e3', if_neg (by rw [f1]; decide), f2, if_pos hs, f3, List.length_append]
/-- What Decode accepts is the encoding of a valid value. -/
theorem enc_ds {l : List UInt8} (h : (ds l 0).2.2 = 0) : valid (ds l 0).1 = true ∧ ∃ c : Nat, (ds l 0).2.1 = c ∧ 1 ≤ c ∧ c ≤ l.length ∧ enc (ds l 0).1 = l.take c := by
  by_cases h0 : tE l 0 = 0
  · obtain ⟨y, c, hv, hn, hy, h1, h2, he⟩ := accepted h0
    by_cases k0 : tV l 0 = 0
    · rw [ds_nil h0 k0]
      have y0 : y = 0 := by omega
      subst y0
      exact ⟨rfl, c, hn, h1, h2, he⟩
    · by_cases k1 : tV l 0 = 1
      · have y1 : y = 1 := by omega
        subst y1
        rw [ds_int h0 k1] at h ⊢
        rw [hn] at h ⊢
        by_cases e1 : tE l (c : Int) = 0
        · rw [if_neg (by omega)] at h ⊢
          obtain ⟨s1, s2, s3⟩ := shift_t (l := l) (a := c) h2
          obtain ⟨z, d, hv2, hn2, hz, g1, g2, hg⟩ := accepted (s2.trans e1)
          have s4 := s3 e1
          rw [List.length_drop] at g2
          have hi : iV l (c : Int) = unzigzag z := by
            unfold iV
            rw [← s1, hv2, Int.toNat_natCast]
          refine ⟨?_, c + d, ?_, by omega, by omega, ?_⟩
          · exact valid_iff.2 (Or.inr (Or.inl ⟨rfl, rfl⟩))
          · show tN l (c : Int) = _
            rw [← s4, hn2]; omega
          · show uvarint 1 ++ intText (iV l c) = _
            unfold intText
            rw [hi, zigzag_back, he, hg, List.take_add]
        · rw [if_pos e1] at h; exact absurd h e1
      · by_cases k2 : tV l 0 = 2
        · have y2 : y = 2 := by omega
          subst y2
          rw [ds_str h0 k2] at h ⊢
          rw [hn] at h ⊢
          by_cases e1 : xE l (c : Int) 64 = 0
          · rw [if_neg (by omega)] at h ⊢
            by_cases hp : plain (xV l (c : Int) 64) = true
            · rw [if_pos hp] at h ⊢
              obtain ⟨s1, s2, s3⟩ := shift_x (l := l) (a := c) h2 64
              obtain ⟨d, hn2, g1, g2, _, hg⟩ := accepted_text (s1.trans e1)
              have s4 := s3 e1
              rw [List.length_drop] at g2
              refine ⟨?_, c + d, ?_, by omega, by omega, ?_⟩
              · exact valid_iff.2 (Or.inr (Or.inr ⟨rfl, rfl, hp⟩))
              · show xN l (c : Int) 64 = _
                rw [← s4, hn2]; omega
              · show uvarint 2 ++ text (xV l (c : Int) 64) = _
                rw [← s2, he, hg, List.take_add]
            · rw [if_neg hp] at h; exact absurd h (by decide)
          · rw [if_pos e1] at h; exact absurd h e1
        · rw [ds_bad h0 k0 k1 k2] at h; exact absurd h (by decide)
  · rw [ds_err h0] at h; exact absurd h h0
/-- (P5.6) Of two different valid values neither encoding is a prefix of the other. -/
theorem enc_prefix {a b : Val} (ha : valid a = true) (hb : valid b = true) (a0 : -9223372036854775808 ≤ a.n) (a1 : a.n ≤ 9223372036854775807) (b0 : -9223372036854775808 ≤ b.n) (b1 : b.n ≤ 9223372036854775807)
    (h : (enc b).take (enc a).length = enc a) : a = b := by
  have e1 := ds_enc ha a0 a1 ((enc b).drop (enc a).length)
  have e2 := ds_enc hb b0 b1 []
  rw [← h] at e1
  rw [h] at e1
  have e3 : enc a ++ (enc b).drop (enc a).length = enc b := by
    have := List.take_append_drop (enc a).length (enc b)
    rw [h] at this
    exact this
  rw [e3] at e1
  rw [List.append_nil] at e2
  rw [e2] at e1
  exact (Prod.mk.inj e1).1.symm
theorem enc_ne (v : Val) : enc v ≠ [] := by
  have key : ∀ x : Nat, uvarint x ≠ [] := by
    intro x
    rw [Lib.uvarint]
    split <;> exact List.cons_ne_nil _ _
  unfold enc
  split
  · intro h; exact key 1 (List.append_eq_nil_iff.1 h).1
  · split
    · intro h; exact key 2 (List.append_eq_nil_iff.1 h).1
    · exact key 0
end Go.Proofs.YtcedndjpdgpdgaaDoor.V
