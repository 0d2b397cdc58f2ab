/-
  What the reference of layer 6 returns: ValidWrites, Valid, Has, Get, Same: contracts, one a function.
-/
import Derived.Test.YtieloegadhgipaaSRefs
namespace Go.Proofs.Ytieloegadhgipaa.S
open Go.RowKit
open Go.Proofs.Ytieloegadhgipaa.V (ret_bool ret_int ret_string below_2 below_box below_box2 Has)

/-- a list that the program can hold: its length, its strings, its numbers -/
structure Fits (xs : List P) : Prop where
  len : xs.length ≤ 1000000000000
  sz : ∀ p ∈ xs, p.key.size ≤ 1000000000000 ∧ p.s.size ≤ 1000000000000
  num : ∀ p ∈ xs, -9223372036854775808 ≤ p.n ∧ p.n ≤ 9223372036854775807
theorem Fits.at {xs : List P} (h : Fits xs) {k : Nat} (hk : k < xs.length) : xs[k].key.size ≤ 1000000000000 ∧ xs[k].s.size ≤ 1000000000000 ∧ -9223372036854775808 ≤ xs[k].n ∧ xs[k].n ≤ 9223372036854775807 :=
  ⟨(h.sz _ (List.getElem_mem hk)).1, (h.sz _ (List.getElem_mem hk)).2, h.num _ (List.getElem_mem hk)⟩
theorem vw_val {xs : List P} {k : Nat} (h : k < xs.length) (hk : V.valid ⟨xs[k].k, xs[k].n, xs[k].s.data.toList⟩ = false) : vw (prs xs) = false := by
  cases hv : vw (prs xs)
  · rfl
  · have := (vw_iff.1 hv).1 _ (mem_prs h)
    rw [show (xs[k].pr).2 = ⟨xs[k].k, xs[k].n, xs[k].s.data.toList⟩ from rfl, hk] at this
    cases this
theorem vw_rest {xs : List P} (h : ∀ j (h : j < xs.length), V.valid ⟨xs[j].k, xs[j].n, xs[j].s.data.toList⟩ = true) : vw (prs xs) = asc (prs xs) := by
  unfold vw
  rw [show ((prs xs).all fun p => V.valid p.2) = true from List.all_eq_true.2 fun p hp => by
    obtain ⟨k, hk, rfl⟩ := of_prs hp
    exact h k hk]
  rfl
set_option maxHeartbeats 2000000 in
set_option maxRecDepth 100000 in
theorem rvw_any (a : Option Addr) (c : Nat) (xs : List P) (hf : Fits xs) (w : World) (hA : Prs w a xs) :
    Calls Try.prog 42 #[.slice a xs.length c] w fun e w' => e = .returned (.bool (vw (prs xs))) ∧ Below w.heap.size w w' := by
  have hx := hf.len
  have HA := Lib.hid hA
  have HF := Lib.hid hf
  have HS := Lib.hid (fun (wr : World) (h : Prs wr a xs) => rasc_any a c xs hf.len (fun p hp => by have := (hf.sz p hp).1; omega) h)
  clear hA hf
  obtain ⟨n, hn⟩ : ∃ n, xs.length = n := ⟨_, rfl⟩
  have HL := Lib.hid hn
  rw [hn] at HS ⊢
  rw [hn] at hx
  clear hn
  go_enter Try.func42, Try.ntmps42
  go_wp2
  go_loopw [3] (fun s3 wr => ∃ k : Nat, k ≤ n ∧ s3 = .int .i64 k ∧ Below w.heap.size w wr ∧ Hid (∀ j (h : j < xs.length), j < k → V.valid ⟨xs[j].k, xs[j].n, xs[j].s.data.toList⟩ = true)) (fun s3 _ => n - (intOf s3).toNat)
  case atStart => exact ⟨0, Nat.zero_le _, rfl, Below.refl _ _, fun j _ h => absurd h (Nat.not_lt_zero _)⟩
  case round =>
    obtain ⟨k, hk, rfl, hb, HK⟩ := hrel
    have HB := Lib.hid hb
    by_cases hlt : k < n
    · have hlx : k < xs.length := by rw [HL.out]; exact hlt
      obtain ⟨b, o, rfl, hc⟩ := (HA.out.below hb).open hlx
      obtain ⟨z0, z1, z2, z3⟩ := HF.out.at hlx
      have hv := V.rvalid_any xs[k].k xs[k].n xs[k].s (by omega)
      obtain ⟨c0, c1, c2, c3⟩ := hc k hlx
      cases hok : V.valid ⟨xs[k].k, xs[k].n, xs[k].s.data.toList⟩
      · have HV := Lib.hid (vw_val hlx hok)
        rw [hok] at hv
        have HC := Lib.hid hv
        generalize xs[k] = p at c0 c1 c2 c3 HC
        clear hc hok hv z0 z1 z2 z3 hb
        go_wp2_with fail
        refine (HC.out _).mono ?_; rintro e w1 ⟨rfl, hb1⟩
        go_wp2_with fail
        go_ret
        exact ⟨ret_bool HV.out.symm, below_2 HB.out hb1⟩
      · have HN : Hid (∀ j (h : j < xs.length), j < k + 1 → V.valid ⟨xs[j].k, xs[j].n, xs[j].s.data.toList⟩ = true) := by
          intro j h hj
          by_cases e : j = k
          · subst e; exact hok
          · exact HK.out j h (by omega)
        rw [hok] at hv
        have HC := Lib.hid hv
        generalize xs[k] = p at c0 c1 c2 c3 HC
        clear hc hok hv z0 z1 z2 z3 hb
        go_wp2_with fail
        refine (HC.out _).mono ?_; rintro e w1 ⟨rfl, hb1⟩
        go_wp2_with fail
        go_roundw
        case rel => exact ⟨k + 1, by omega, by go_num, below_2 HB.out hb1, HN⟩
        case measure => simp [intOf]; omega
    · obtain rfl : n = k := by omega
      have HV : Hid (vw (prs xs) = asc (prs xs)) := vw_rest fun j h => HK.out j h (by rw [← HL.out]; exact h)
      have HG := Lib.hid (HS.out wr (HA.out.below hb))
      clear hb
      go_wp2_with fail
      refine HG.out.mono ?_; rintro e w1 ⟨rfl, hb1⟩
      go_wp2_with fail
      go_ret
      exact ⟨ret_bool HV.out.symm, below_2 HB.out hb1⟩
theorem rvs_all (a : Option Addr) (c : Nat) (xs : List P) (hf : Fits xs) (w : World) (hA : Prs w a xs) :
    Calls Try.prog 21 #[.slice a xs.length c] w fun e w' => e = .returned (.bool (vs (prs xs))) ∧ Below w.heap.size w w' :=
  rvs_any a c xs hf.len hA (Lib.hid fun w h => rvw_any a c xs hf w h)

/-! ### Has and Get -/

theorem has_hit {xs : List P} {q : ByteArray} {k : Nat} (h : k < xs.length) (hk : xs[k].key.data.toList = q.data.toList) : has (prs xs) q.data.toList = true := has_iff.2 ⟨_, mem_prs h, hk⟩
theorem has_miss {xs : List P} {q : ByteArray} (h : ∀ j (h : j < xs.length), xs[j].key.data.toList ≠ q.data.toList) : has (prs xs) q.data.toList = false := by
  cases hv : has (prs xs) q.data.toList
  · rfl
  · obtain ⟨p, hp, e⟩ := has_iff.1 hv
    obtain ⟨k, hk, rfl⟩ := of_prs hp
    exact absurd e (h k hk)
set_option maxHeartbeats 2000000 in
set_option maxRecDepth 100000 in
theorem rhas_any (a : Option Addr) (c : Nat) (xs : List P) (q : ByteArray) (hx : xs.length ≤ 1000000000000) (w : World) (hA : Prs w a xs) :
    Calls Try.prog 29 #[.slice a xs.length c, .string q] w fun e w' => e = .returned (.bool (has (prs xs) q.data.toList)) ∧ w' = w := by
  have HA := Lib.hid hA
  clear hA
  obtain ⟨n, hn⟩ : ∃ n, xs.length = n := ⟨_, rfl⟩
  have HL := Lib.hid hn
  rw [hn] at hx ⊢
  clear hn
  go_enter Try.func29, Try.ntmps29
  go_wp2
  go_loopw [5] (fun s5 wr => ∃ k : Nat, k ≤ n ∧ s5 = .int .i64 k ∧ wr = w ∧ Hid (∀ j (h : j < xs.length), j < k → xs[j].key.data.toList ≠ q.data.toList)) (fun s5 _ => n - (intOf s5).toNat)
  case atStart => exact ⟨0, Nat.zero_le _, rfl, rfl, fun j _ h => absurd h (Nat.not_lt_zero _)⟩
  case round =>
    obtain ⟨k, hk, rfl, rfl, HK⟩ := hrel
    by_cases hlt : k < n
    · have hlx : k < xs.length := by rw [HL.out]; exact hlt
      obtain ⟨b, o, rfl, hc⟩ := HA.out.open hlx
      obtain ⟨c0, c1, c2, c3⟩ := hc k hlx
      by_cases hok : xs[k].key.data.toList = q.data.toList
      · have HV := Lib.hid (has_hit hlx hok)
        have bq : (xs[k].key.toList == q.toList) = true := by rw [K.eql_eq]; exact decide_eq_true hok
        generalize xs[k] = p at c0 bq
        clear hc hok c1 c2 c3
        go_wp2_with fail
        go_ret
        exact ⟨ret_bool HV.out.symm, rfl⟩
      · have HN : Hid (∀ j (h : j < xs.length), j < k + 1 → xs[j].key.data.toList ≠ q.data.toList) := by
          intro j h hj
          by_cases e : j = k
          · subst e; exact hok
          · exact HK.out j h (by omega)
        have bq : (xs[k].key.toList == q.toList) = false := by rw [K.eql_eq]; exact decide_eq_false hok
        generalize xs[k] = p at c0 bq
        clear hc hok c1 c2 c3
        go_wp2_with fail
        go_roundw
        case rel => exact ⟨k + 1, by omega, by go_num, by first | rfl | trivial, HN⟩
        case measure => simp [intOf]; omega
    · obtain rfl : n = k := by omega
      have HV : Hid (has (prs xs) q.data.toList = false) := has_miss fun j h => HK.out j h (by rw [← HL.out]; exact h)
      go_wp2_with fail
      go_ret
      exact ⟨ret_bool HV.out.symm, rfl⟩
/-- the first pair with this key, or one without a value -/
def getP : List P → ByteArray → P
  | [], q => ⟨q, 0, 0, ⟨#[]⟩⟩
  | p :: xs, q => if p.key.data.toList = q.data.toList then p else getP xs q
theorem getP_val (xs : List P) (q : ByteArray) : (getP xs q).pr.2 = get (prs xs) q.data.toList := by
  induction xs with
  | nil => rfl
  | cons p xs ih =>
    show _ = get (p.pr :: prs xs) q.data.toList
    rw [getP, get]
    show _ = if p.key.data.toList = q.data.toList then p.pr.2 else _
    by_cases e : p.key.data.toList = q.data.toList
    · rw [if_pos e, if_pos e]
    · rw [if_neg e, if_neg e]; exact ih
theorem getP_drop {q : ByteArray} : ∀ {xs : List P} {k : Nat}, (∀ j (h : j < xs.length), j < k → xs[j].key.data.toList ≠ q.data.toList) → getP xs q = getP (xs.drop k) q
  | xs, 0, _ => rfl
  | [], k + 1, _ => rfl
  | p :: xs, k + 1, h => by
    have h0 : ¬ p.key.data.toList = q.data.toList := h 0 (by simp) (by omega)
    rw [getP, if_neg h0, List.drop_succ_cons]
    exact getP_drop fun j hj hjk => by
      have := h (j + 1) (by simp; omega) (by omega)
      simpa using this
theorem getP_hit {xs : List P} {q : ByteArray} {k : Nat} (h : k < xs.length) (hb : ∀ j (h : j < xs.length), j < k → xs[j].key.data.toList ≠ q.data.toList) (hk : xs[k].key.data.toList = q.data.toList) : getP xs q = xs[k] := by
  rw [getP_drop hb, List.drop_eq_getElem_cons h, getP, if_pos hk]
theorem getP_miss {xs : List P} {q : ByteArray} (hb : ∀ j (h : j < xs.length), xs[j].key.data.toList ≠ q.data.toList) : getP xs q = ⟨q, 0, 0, ⟨#[]⟩⟩ := by
  rw [getP_drop (k := xs.length) (fun j h _ => hb j h), List.drop_length]; rfl
theorem getP_fits {xs : List P} (h : Fits xs) (q : ByteArray) : (getP xs q).s.size ≤ 1000000000000 ∧ -9223372036854775808 ≤ (getP xs q).n ∧ (getP xs q).n ≤ 9223372036854775807 := by
  have key : getP xs q ∈ xs ∨ getP xs q = ⟨q, 0, 0, ⟨#[]⟩⟩ := by
    clear h
    induction xs with
    | nil => exact Or.inr rfl
    | cons p xs ih =>
      rw [getP]
      split
      · exact Or.inl List.mem_cons_self
      · exact ih.imp_left (List.mem_cons_of_mem _)
  rcases key with hm | he
  · exact ⟨(h.sz _ hm).2, h.num _ hm⟩
  · rw [he]; exact ⟨Nat.zero_le _, by show (-9223372036854775808 : Int) ≤ 0; decide, by show (0 : Int) ≤ 9223372036854775807; decide⟩
set_option maxHeartbeats 2000000 in
set_option maxRecDepth 100000 in
theorem rget_any (a : Option Addr) (c : Nat) (xs : List P) (q : ByteArray) (hx : xs.length ≤ 1000000000000) (w : World) (hA : Prs w a xs) :
    Calls Try.prog 22 #[.slice a xs.length c, .string q] w fun e w' => e = .returned (getP xs q).v ∧ Below w.heap.size w w' := by
  have HA := Lib.hid hA
  have HW := Lib.hid (fun x y z => below_box w (.cells #[.int .i64 x, .int .i64 y, .string z] 30))
  clear hA
  obtain ⟨n, hn⟩ : ∃ n, xs.length = n := ⟨_, rfl⟩
  have HL := Lib.hid hn
  rw [hn] at hx ⊢
  clear hn
  go_enter Try.func22, Try.ntmps22
  go_wp2
  go_loopw [5] (fun s5 wr => ∃ k : Nat, k ≤ n ∧ s5 = .int .i64 k ∧ wr = w.alloc (.cells #[.int .i64 0, .int .i64 0, .string ⟨#[]⟩] 30) ∧ Hid (∀ j (h : j < xs.length), j < k → xs[j].key.data.toList ≠ q.data.toList)) (fun s5 _ => n - (intOf s5).toNat)
  case atStart => exact ⟨0, Nat.zero_le _, rfl, rfl, fun j _ h => absurd h (Nat.not_lt_zero _)⟩
  case round =>
    obtain ⟨k, hk, rfl, rfl, HK⟩ := hrel
    by_cases hlt : k < n
    · have hlx : k < xs.length := by rw [HL.out]; exact hlt
      obtain ⟨b, o, rfl, hc⟩ := (HA.out.below (HW.out 0 0 ⟨#[]⟩)).open hlx
      obtain ⟨c0, c1, c2, c3⟩ := hc k hlx
      by_cases hok : xs[k].key.data.toList = q.data.toList
      · have HV := Lib.hid (getP_hit hlx (fun j h hj => HK.out j h hj) hok)
        have bq : (xs[k].key.toList == q.toList) = true := by rw [K.eql_eq]; exact decide_eq_true hok
        generalize xs[k] = p at c0 c1 c2 c3 bq HV
        clear hc hok
        go_wp2_with fail
        refine bodyPost_ret (v := p.v) (by simp [results, Try.results22, go_sem, P.v]) rfl ⟨?_, HW.out _ _ _⟩
        rw [HV.out]
      · have HN : Hid (∀ j (h : j < xs.length), j < k + 1 → xs[j].key.data.toList ≠ q.data.toList) := by
          intro j h hj
          by_cases e : j = k
          · subst e; exact hok
          · exact HK.out j h (by omega)
        have bq : (xs[k].key.toList == q.toList) = false := by rw [K.eql_eq]; exact decide_eq_false hok
        generalize xs[k] = p at c0 bq
        clear hc hok c1 c2 c3
        go_wp2_with fail
        go_roundw
        case rel => exact ⟨k + 1, by omega, by go_num, by first | rfl | trivial, HN⟩
        case measure => simp [intOf]; omega
    · obtain rfl : n = k := by omega
      have HV : Hid (getP xs q = ⟨q, 0, 0, ⟨#[]⟩⟩) := getP_miss fun j h => HK.out j h (by rw [← HL.out]; exact h)
      go_wp2_with fail
      refine bodyPost_ret (v := .agg #[.int .i64 0, .int .i64 0, .string ⟨#[]⟩]) (by simp [results, Try.results22, go_sem]) rfl ⟨?_, HW.out _ _ _⟩
      rw [HV.out]; rfl
end Go.Proofs.Ytieloegadhgipaa.S
