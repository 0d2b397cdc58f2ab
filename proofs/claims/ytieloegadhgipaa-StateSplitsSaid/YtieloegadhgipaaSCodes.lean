/-
  Plain mathematics of layer 6, without the program: the encodings of states.
-/
import Derived.Test.YtieloegadhgipaaSPlain
namespace Go.Proofs.Ytieloegadhgipaa.S
open Go.Proofs.Ytieloegadhgipaa.W (tV tN tE xV xN xE cV cN text enc_at text_at tN_bd xE_zero x_ok xE_ok)
open Go.Lib (uvarint zigzag unzigzag)

/-- the encodings of the pairs -/
def body (l : List Pr) : List UInt8 := l.flatMap fun p => text p.1 ++ V.enc p.2
/-- the encoding of a list -/
def encs (l : List Pr) : List UInt8 := uvarint l.length ++ body l
/-- n pairs, from the offset a on -/
def rds (s : List UInt8) : Nat → Int → List Pr × Int × Int
  | 0, a => ([], a, 0)
  | n + 1, a =>
    if xE s a 24 ≠ 0 then ([], 0, xE s a 24)
    else if (V.ds s (xN s a 24)).2.2 ≠ 0 then ([], 0, (V.ds s (xN s a 24)).2.2)
    else if (rds s n (V.ds s (xN s a 24)).2.1).2.2 ≠ 0 then ([], 0, (rds s n (V.ds s (xN s a 24)).2.1).2.2)
    else ((xV s a 24, (V.ds s (xN s a 24)).1) :: (rds s n (V.ds s (xN s a 24)).2.1).1, (rds s n (V.ds s (xN s a 24)).2.1).2.1, 0)
/-- what Decode returns: the state, the offset behind it, the error -/
def decs (s : List UInt8) (a : Int) : List Pr × Int × Int :=
  if xE s a 2147483647 ≠ 0 then ([], 0, xE s a 2147483647)
  else if (rds s (cV s a 2147483647).toNat (cN s a 2147483647)).2.2 ≠ 0 then ([], 0, (rds s (cV s a 2147483647).toNat (cN s a 2147483647)).2.2)
  else if vs (rds s (cV s a 2147483647).toNat (cN s a 2147483647)).1 then ((rds s (cV s a 2147483647).toNat (cN s a 2147483647)).1, (rds s (cV s a 2147483647).toNat (cN s a 2147483647)).2.1, 0)
  else ([], 0, 5)
theorem rds_err {s : List UInt8} : ∀ {n : Nat} {a : Int}, (rds s n a).2.2 ≠ 0 → rds s n a = ([], 0, (rds s n a).2.2)
  | 0, a, h => absurd rfl h
  | n + 1, a, h => by
    rw [rds] at h ⊢
    by_cases h1 : xE s a 24 ≠ 0
    · rw [if_pos h1]
    · rw [if_neg h1] at h ⊢
      by_cases h2 : (V.ds s (xN s a 24)).2.2 ≠ 0
      · rw [if_pos h2]
      · rw [if_neg h2] at h ⊢
        by_cases h3 : (rds s n (V.ds s (xN s a 24)).2.1).2.2 ≠ 0
        · rw [if_pos h3]
        · rw [if_neg h3] at h
          exact absurd rfl h
/-- l ahead of what r says -/
def joinR (l : List Pr) (r : List Pr × Int × Int) : List Pr × Int × Int := if r.2.2 ≠ 0 then ([], 0, r.2.2) else (l ++ r.1, r.2.1, 0)
theorem joinR_err {l : List Pr} {e : Int} (h : e ≠ 0) : joinR l ([], 0, e) = ([], 0, e) := if_pos h
theorem joinR_ok {l m : List Pr} {a : Int} : joinR l (m, a, 0) = (l ++ m, a, 0) := if_neg (fun x => x rfl)
theorem rds_key {s : List UInt8} {m : Nat} {a : Int} (hx : xE s a 24 ≠ 0) : rds s (m + 1) a = ([], 0, xE s a 24) := by rw [rds, if_pos hx]
theorem rds_val {s : List UInt8} {m : Nat} {a : Int} (hx : xE s a 24 = 0) (hv : (V.ds s (xN s a 24)).2.2 ≠ 0) : rds s (m + 1) a = ([], 0, (V.ds s (xN s a 24)).2.2) := by rw [rds, if_neg (fun x => x hx), if_pos hv]
theorem rds_ok {s : List UInt8} {m : Nat} {a : Int} (hx : xE s a 24 = 0) (hv : (V.ds s (xN s a 24)).2.2 = 0) : rds s (m + 1) a = joinR [(xV s a 24, (V.ds s (xN s a 24)).1)] (rds s m (V.ds s (xN s a 24)).2.1) := by
  rw [rds, if_neg (fun x => x hx), if_neg (fun x => x hv)]; rfl
theorem joinR_joinR (l m : List Pr) (r : List Pr × Int × Int) : joinR l (joinR m r) = joinR (l ++ m) r := by
  by_cases h : r.2.2 ≠ 0
  · have e : ∀ k : List Pr, joinR k r = ([], 0, r.2.2) := fun k => if_pos h
    rw [e, e, joinR_err h]
  · have e : ∀ k : List Pr, joinR k r = (k ++ r.1, r.2.1, 0) := fun k => if_neg h
    rw [e, e, joinR_ok, List.append_assoc]
/-- behind i of n pairs, which are l, the offset is a -/
def Rs (s : List UInt8) (n : Nat) (a0 : Int) (i : Nat) (l : List Pr) (a : Int) : Prop := rds s n a0 = joinR l (rds s (n - i) a)
theorem Rs.start (s : List UInt8) (n : Nat) (a0 : Int) : Rs s n a0 0 [] a0 := by
  unfold Rs joinR
  rw [Nat.sub_zero, List.nil_append]
  by_cases h : (rds s n a0).2.2 ≠ 0
  · rw [if_pos h]; exact rds_err h
  · rw [if_neg h]
    have h0 : (rds s n a0).2.2 = 0 := Decidable.byContradiction h
    exact Prod.ext rfl (Prod.ext rfl h0)
theorem Rs.key_err {s : List UInt8} {n i : Nat} {a0 a : Int} {l : List Pr} (h : Rs s n a0 i l a) (hi : i < n) (hx : xE s a 24 ≠ 0) : rds s n a0 = ([], 0, xE s a 24) := by
  unfold Rs at h
  obtain ⟨m, hm⟩ : ∃ m, n - i = m + 1 := ⟨n - i - 1, by omega⟩
  rw [h, hm, rds_key hx, joinR_err hx]
theorem Rs.val_err {s : List UInt8} {n i : Nat} {a0 a : Int} {l : List Pr} (h : Rs s n a0 i l a) (hi : i < n) (hx : xE s a 24 = 0) (hv : (V.ds s (xN s a 24)).2.2 ≠ 0) : rds s n a0 = ([], 0, (V.ds s (xN s a 24)).2.2) := by
  unfold Rs at h
  obtain ⟨m, hm⟩ : ∃ m, n - i = m + 1 := ⟨n - i - 1, by omega⟩
  rw [h, hm, rds_val hx hv, joinR_err hv]
theorem Rs.next {s : List UInt8} {n i : Nat} {a0 a : Int} {l : List Pr} (h : Rs s n a0 i l a) (hi : i < n) (hx : xE s a 24 = 0) (hv : (V.ds s (xN s a 24)).2.2 = 0) :
    Rs s n a0 (i + 1) (l ++ [(xV s a 24, (V.ds s (xN s a 24)).1)]) (V.ds s (xN s a 24)).2.1 := by
  unfold Rs at *
  obtain ⟨m, hm⟩ : ∃ m, n - i = m + 1 := ⟨n - i - 1, by omega⟩
  rw [h, hm, show n - (i + 1) = m by omega, rds_ok hx hv, joinR_joinR]
theorem Rs.done {s : List UInt8} {n : Nat} {a0 a : Int} {l : List Pr} (h : Rs s n a0 n l a) : rds s n a0 = (l, a, 0) := by
  unfold Rs at h
  rw [h, Nat.sub_self, rds, joinR_ok, List.append_nil]
theorem x_bd {l : List UInt8} {a m : Int} (h : xE l a m = 0) : 0 ≤ xN l a m ∧ xN l a m ≤ l.length ∧ 0 ≤ cN l a m ∧ cN l a m ≤ l.length ∧ 0 ≤ cV l a m ∧ cV l a m ≤ l.length := by
  obtain ⟨h1, _, _, h4⟩ := xE_zero h
  obtain ⟨g1, _, g3, g4⟩ := x_ok h
  have ht := tN_bd h1
  have hv := W.tV_bd l a
  rw [g1, g3, g4]
  omega
theorem ds_bd {l : List UInt8} {a : Int} (h : (V.ds l a).2.2 = 0) : 0 ≤ (V.ds l a).2.1 ∧ (V.ds l a).2.1 ≤ l.length := by
  by_cases h0 : tE l a = 0
  · by_cases k0 : tV l a = 0
    · rw [V.ds_nil h0 k0]
      have := tN_bd h0
      exact ⟨by show 0 ≤ tN l a; omega, by show tN l a ≤ _; omega⟩
    · by_cases k1 : tV l a = 1
      · rw [V.ds_int h0 k1] at h ⊢
        by_cases h1 : tE l (tN l a) ≠ 0
        · rw [if_pos h1] at h; exact absurd h h1
        · rw [if_neg h1]
          have := tN_bd (Decidable.byContradiction h1)
          exact ⟨by show 0 ≤ tN l (tN l a); omega, by show tN l (tN l a) ≤ _; omega⟩
      · by_cases k2 : tV l a = 2
        · rw [V.ds_str h0 k2] at h ⊢
          by_cases h1 : xE l (tN l a) 64 ≠ 0
          · rw [if_pos h1] at h; exact absurd h h1
          · rw [if_neg h1] at h ⊢
            have := x_bd (Decidable.byContradiction h1)
            cases hp : V.plain (xV l (tN l a) 64)
            · rw [hp] at h
              have h5 : (5 : Int) = 0 := h
              exact absurd h5 (by decide)
            · exact ⟨this.1, this.2.1⟩
        · rw [V.ds_bad h0 k0 k1 k2] at h; exact absurd h (by decide)
  · rw [V.ds_err h0] at h; exact absurd h h0
/-- a valid value behind other bytes -/
theorem ds_at (pre rest : List UInt8) {v : Val} (h : V.valid v = true) (h0 : -9223372036854775808 ≤ v.n) (h1 : v.n ≤ 9223372036854775807) :
    V.ds (pre ++ (V.enc v ++ rest)) pre.length = (v, ((pre.length + (V.enc v).length : Nat) : Int), 0) := by
  obtain ⟨k, n, s⟩ := v
  rcases V.valid_iff.1 h with ⟨hk, hn, hs⟩ | ⟨hk, hs⟩ | ⟨hk, hn, hs⟩
  · simp only at hk hn hs
    subst hk hn hs
    have e : V.enc ⟨0, 0, []⟩ = uvarint 0 := rfl
    rw [e]
    obtain ⟨e1, e2, e3⟩ := enc_at pre rest (x := 0) (by decide)
    rw [V.ds_nil e2 e1, e3]
  · simp only at hk hs h0 h1
    subst hk hs
    have e : V.enc ⟨1, n, []⟩ = uvarint 1 ++ uvarint (zigzag n) := rfl
    rw [e, List.append_assoc]
    obtain ⟨e1, e2, e3⟩ := enc_at pre (uvarint (zigzag n) ++ rest) (x := 1) (by decide)
    obtain ⟨f1, f2, f3⟩ := enc_at (pre ++ uvarint 1) rest (x := zigzag n) (V.zig_lt h0 h1)
    rw [List.append_assoc, List.length_append] at f1 f2 f3
    rw [V.ds_int e2 e1, e3, if_neg (by rw [f2]; decide), f3]
    have hi : W.iV (pre ++ (uvarint 1 ++ (uvarint (zigzag n) ++ rest))) ((pre.length + (uvarint 1).length : Nat) : Int) = n := by
      unfold W.iV
      rw [f1, Int.toNat_natCast, W.unz_back]
    rw [hi, List.length_append, Nat.add_assoc]
  · simp only at hk hn hs
    subst hk hn
    obtain ⟨hl, hp⟩ := V.plain_iff.1 hs
    have e : V.enc ⟨2, 0, s⟩ = uvarint 2 ++ text s := rfl
    rw [e, List.append_assoc]
    obtain ⟨e1, e2, e3⟩ := enc_at pre (text s ++ rest) (x := 2) (by decide)
    obtain ⟨f1, f2, f3, _⟩ := text_at (pre ++ uvarint 2) rest s (by omega) (m := 64) (by omega)
    rw [List.append_assoc, List.length_append] at f1 f2 f3
    rw [V.ds_str e2 e1, e3, if_neg (by rw [f1]; decide), f2, if_pos hs, f3, List.length_append, Nat.add_assoc]
/-- numbers within an int64 -/
def ints (l : List Pr) : Prop := ∀ p ∈ l, -9223372036854775808 ≤ p.2.n ∧ p.2.n ≤ 9223372036854775807
theorem key_le {k : List UInt8} (h : K.valid k = true) : k.length ≤ 24 := by
  unfold K.valid at h
  rw [Bool.and_eq_true, decide_eq_true_iff] at h
  exact h.1.2
theorem rds_at (post : List UInt8) : ∀ (l : List Pr) (pre : List UInt8), (∀ p ∈ l, K.valid p.1 = true) → (∀ p ∈ l, V.valid p.2 = true) → ints l →
    rds (pre ++ (body l ++ post)) l.length pre.length = (l, ((pre.length + (body l).length : Nat) : Int), 0)
  | [], pre, _, _, _ => by
    show ([], (pre.length : Int), (0 : Int)) = _
    simp [body]
  | p :: l, pre, hk, hv, hb => by
    have hk1 := key_le (hk p List.mem_cons_self)
    obtain ⟨b0, b1⟩ := hb p List.mem_cons_self
    have eb : body (p :: l) = text p.1 ++ (V.enc p.2 ++ body l) := by
      unfold body
      rw [List.flatMap_cons, List.append_assoc]
    have e1 : pre ++ (body (p :: l) ++ post) = pre ++ (text p.1 ++ (V.enc p.2 ++ (body l ++ post))) := by
      rw [eb]; simp only [List.append_assoc]
    have e2 : pre ++ (body (p :: l) ++ post) = (pre ++ text p.1) ++ (V.enc p.2 ++ (body l ++ post)) := by
      rw [eb]; simp only [List.append_assoc]
    have e3 : pre ++ (body (p :: l) ++ post) = (pre ++ text p.1 ++ V.enc p.2) ++ (body l ++ post) := by
      rw [eb]; simp only [List.append_assoc]
    obtain ⟨f1, f2, f3, _⟩ := text_at pre (V.enc p.2 ++ (body l ++ post)) p.1 (by omega) (m := 24) (by omega)
    rw [← e1] at f1 f2 f3
    have g := ds_at (pre ++ text p.1) (body l ++ post) (hv p List.mem_cons_self) b0 b1
    rw [← e2, List.length_append] at g
    have ih := rds_at post l (pre ++ text p.1 ++ V.enc p.2) (fun q hq => hk q (List.mem_cons_of_mem _ hq)) (fun q hq => hv q (List.mem_cons_of_mem _ hq)) (fun q hq => hb q (List.mem_cons_of_mem _ hq))
    rw [← e3, List.length_append, List.length_append] at ih
    rw [List.length_cons, rds, if_neg (by rw [f1]; decide), f3, g, if_neg (fun x => x rfl), ih, if_neg (fun x => x rfl), f2]
    have el : pre.length + (text p.1).length + (V.enc p.2).length + (body l).length = pre.length + (body (p :: l)).length := by
      rw [eb, List.length_append, List.length_append]; omega
    show ((p.1, p.2) :: l, ((pre.length + (text p.1).length + (V.enc p.2).length + (body l).length : Nat) : Int), (0 : Int)) = _
    rw [el]
theorem body_ge : ∀ l : List Pr, l.length ≤ (body l).length
  | [] => Nat.zero_le _
  | p :: l => by
    have ih := body_ge l
    have eb : body (p :: l) = text p.1 ++ (V.enc p.2 ++ body l) := by
      unfold body
      rw [List.flatMap_cons, List.append_assoc]
    have hne : 0 < (V.enc p.2).length := List.length_pos_iff.2 (V.enc_ne p.2)
    rw [eb, List.length_append, List.length_append, List.length_cons]
    omega
/-- (P6.9) a valid state is restored from its encoding, whatever stands ahead and behind -/
theorem decs_encs (pre post : List UInt8) {l : List Pr} (h : vs l = true) (hb : ints l) (hl : l.length ≤ 2147483647) :
    decs (pre ++ (encs l ++ post)) pre.length = (l, ((pre.length + (encs l).length : Nat) : Int), 0) := by
  obtain ⟨v2, v3, _⟩ := vw_iff.1 (vs_iff.1 h).2
  have e1 : pre ++ (encs l ++ post) = pre ++ (uvarint l.length ++ (body l ++ post)) := by unfold encs; rw [List.append_assoc]
  have e2 : pre ++ (encs l ++ post) = (pre ++ uvarint l.length) ++ (body l ++ post) := by unfold encs; simp only [List.append_assoc]
  obtain ⟨f1, f2, f3⟩ := enc_at pre (body l ++ post) (x := l.length) (by omega)
  rw [← e1] at f1 f2 f3
  have hbody := body_ge l
  have hlen : ((pre ++ (encs l ++ post)).length : Int) = pre.length + (uvarint l.length).length + (body l).length + post.length := by
    rw [e1]; simp only [List.length_append]; omega
  have hx : xE (pre ++ (encs l ++ post)) pre.length 2147483647 = 0 := xE_ok f2 (by rw [f1]; omega) (by rw [f1, f3, hlen]; omega)
  obtain ⟨_, _, g3, g4⟩ := x_ok hx
  have hr := rds_at post l (pre ++ uvarint l.length) v3 v2 hb
  rw [← e2, List.length_append] at hr
  have el : pre.length + (uvarint l.length).length + (body l).length = pre.length + (encs l).length := by
    unfold encs; rw [List.length_append]; omega
  unfold decs
  rw [if_neg (by rw [hx]; decide), g3, g4, f1, f3, Int.toNat_natCast, hr, if_neg (fun x => x rfl)]
  show (if vs l then (l, ((pre.length + (uvarint l.length).length + (body l).length : Nat) : Int), (0 : Int)) else _) = _
  rw [if_pos h, el]
theorem decs_valid {s : List UInt8} {a : Int} (h : (decs s a).2.2 = 0) : vs (decs s a).1 = true := by
  unfold decs at *
  by_cases h1 : xE s a 2147483647 ≠ 0
  · rw [if_pos h1] at h; exact absurd h h1
  · rw [if_neg h1] at h ⊢
    generalize rds s (cV s a 2147483647).toNat (cN s a 2147483647) = r at *
    by_cases h2 : r.2.2 ≠ 0
    · rw [if_pos h2] at h; exact absurd h h2
    · rw [if_neg h2] at h ⊢
      cases h3 : vs r.1
      · rw [h3] at h
        have h5 : (5 : Int) = 0 := h
        exact absurd h5 (by decide)
      · rw [if_pos rfl]; exact h3
theorem body_le : ∀ l : List Pr, (∀ p ∈ l, p.1.length ≤ 1000000000000 ∧ p.2.s.length ≤ 1000000000000) → ints l → (body l).length ≤ (l.map fun p => p.1.length + p.2.s.length + 40).sum
  | [], _, _ => Nat.le_refl _
  | p :: l, hs, hb => by
    have ih := body_le l (fun q hq => hs q (List.mem_cons_of_mem _ hq)) (fun q hq => hb q (List.mem_cons_of_mem _ hq))
    obtain ⟨s1, s2⟩ := hs p List.mem_cons_self
    obtain ⟨b0, b1⟩ := hb p List.mem_cons_self
    have eb : body (p :: l) = text p.1 ++ (V.enc p.2 ++ body l) := by
      unfold body
      rw [List.flatMap_cons, List.append_assoc]
    have key : ∀ x : Nat, x < 18446744073709551616 → (uvarint x).length ≤ 10 := fun x hx => Lib.uvarint_length64 hx
    have t1 : (text p.1).length ≤ p.1.length + 10 := by
      have := key p.1.length (by omega)
      unfold W.text; rw [List.length_append]; omega
    have t2 : (V.enc p.2).length ≤ p.2.s.length + 20 := by
      unfold V.enc
      have k0 := key 0 (by decide)
      have k1 := key 1 (by decide)
      have k2 := key 2 (by decide)
      have k3 := key (zigzag p.2.n) (V.zig_lt b0 b1)
      have k4 := key p.2.s.length (by omega)
      split
      · rw [List.length_append]
        show _ + (uvarint (zigzag p.2.n)).length ≤ _
        omega
      · split
        · rw [List.length_append]; unfold W.text; rw [List.length_append]; omega
        · omega
    rw [eb, List.length_append, List.length_append, List.map_cons, List.sum_cons]
    omega
theorem decs_len {s : List UInt8} {a : Int} : (decs s a).1.length ≤ s.length := by
  have key : ∀ (n : Nat) (a : Int), (rds s n a).1.length ≤ n := by
    intro n
    induction n with
    | zero => intro a; exact Nat.le_refl _
    | succ n ih =>
      intro a
      rw [rds]
      split
      · exact Nat.zero_le _
      · split
        · exact Nat.zero_le _
        · split
          · exact Nat.zero_le _
          · rw [List.length_cons]
            have := ih (V.ds s (xN s a 24)).2.1
            omega
  unfold decs
  split
  · exact Nat.zero_le _
  · rename_i h1
    have := x_bd (Decidable.byContradiction h1)
    have k2 := key (cV s a 2147483647).toNat (cN s a 2147483647)
    split
    · exact Nat.zero_le _
    · split
      · show (rds s (cV s a 2147483647).toNat (cN s a 2147483647)).1.length ≤ _
        omega
      · exact Nat.zero_le _
end Go.Proofs.Ytieloegadhgipaa.S
