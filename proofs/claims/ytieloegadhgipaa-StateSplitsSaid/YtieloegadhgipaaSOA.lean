/-
  What the program's own functions of layer 6 return: isDeletion, IndexFunc, ContainsFunc, areWrites, Valid, Equal, Same, copiedValue, byKey: contracts, one a function.
-/
import Derived.Test.YtieloegadhgipaaSWith
namespace Go.Proofs.Ytieloegadhgipaa.S
open Go.RowKit
open Go.Proofs.Ytieloegadhgipaa.V (ret_bool ret_int ret_string below_2 below_box below_box2 size_len)

/-- a list that fits memory: its length, its strings -/
structure Fitz (xs : List P) : Prop where
  len : xs.length ≤ 2932031007402
  sz : ∀ p ∈ xs, p.key.size ≤ 140737488355328 ∧ p.s.size ≤ 140737488355328
theorem Fits.z {xs : List P} (h : Fits xs) : Fitz xs := ⟨by have := h.len; omega, fun p hp => by have := h.sz p hp; omega⟩
theorem Fitz.at {xs : List P} (h : Fitz xs) {k : Nat} (hk : k < xs.length) : xs[k].key.size ≤ 140737488355328 ∧ xs[k].s.size ≤ 140737488355328 := h.sz _ (List.getElem_mem hk)

/-! ### Valid and what it calls -/

theorem isDel_any (p : P) (w : World) :
    Calls Try.prog 37 #[.agg #[.string p.key, .int .i64 p.k, .int .i64 p.n, .string p.s]] w fun e w' => e = .returned (.bool (p.k == 0)) ∧ Below w.heap.size w w' := by
  have HW := Lib.hid (below_box w (.cells #[.string p.key, .int .i64 p.k, .int .i64 p.n, .string p.s] 33))
  go_enter Try.func37, Try.ntmps37
  go_wp2_with fail
  go_ret
  exact ⟨rfl, HW.out⟩
def anyDel (xs : List P) : Bool := xs.any fun p => p.k == 0
theorem anyDel_hit {xs : List P} {k : Nat} (h : k < xs.length) (hk : (xs[k].k == 0) = true) : anyDel xs = true := List.any_eq_true.2 ⟨_, List.getElem_mem h, hk⟩
theorem anyDel_miss {xs : List P} (h : ∀ j (h : j < xs.length), (xs[j].k == 0) = false) : anyDel xs = false := by
  rw [anyDel, List.any_eq_false]
  intro p hp
  obtain ⟨j, hj, rfl⟩ := List.mem_iff_getElem.1 hp
  rw [h j hj]; decide
theorem vs_split (xs : List P) : vs (prs xs) = (vw (prs xs) && !anyDel xs) := by
  cases hv : vw (prs xs)
  · cases hs : vs (prs xs)
    · rfl
    · rw [(vs_iff.1 hs).2] at hv; cases hv
  · cases hd : anyDel xs
    · refine vs_iff.2 ⟨fun p hp => ?_, hv⟩
      obtain ⟨k, hk, rfl⟩ := of_prs hp
      intro e
      rw [anyDel_hit hk (beq_iff_eq.2 e)] at hd
      cases hd
    · obtain ⟨p, hp, h⟩ := List.any_eq_true.1 hd
      obtain ⟨j, hj, rfl⟩ := List.mem_iff_getElem.1 hp
      rw [vs_kind hj (beq_iff_eq.1 h)]; rfl
set_option maxHeartbeats 1000000 in
set_option maxRecDepth 100000 in
theorem idx_any (a : Option Addr) (c : Nat) (xs : List P) (hx : xs.length ≤ 2932031007402) (w : World) (hA : Prs w a xs) :
    Calls Try.prog 63 #[.slice a xs.length c, .func (Fn.func 37) #[] #[]] w fun e w' => (∃ v : Int, e = .returned (.int .i64 v) ∧ decide (0 ≤ v) = anyDel xs) ∧ Below w.heap.size w w' := by
  have HA := Lib.hid hA
  clear hA
  obtain ⟨n, hn⟩ : ∃ n, xs.length = n := ⟨_, rfl⟩
  have HL := Lib.hid hn
  rw [hn] at hx ⊢
  clear hn
  go_enter Try.func63, Try.ntmps63
  go_wp2
  go_loopw [8] (fun s8 wr => ∃ k : Nat, k ≤ n ∧ s8 = .int .i64 k ∧ Below w.heap.size w wr ∧ Hid (∀ j (h : j < xs.length), j < k → (xs[j].k == 0) = false)) (fun s8 _ => n - (intOf s8).toNat)
  case atStart => exact ⟨0, Nat.zero_le _, rfl, Below.refl _ _, fun j _ h => absurd h (Nat.not_lt_zero _)⟩
  case round =>
    obtain ⟨k, hk, rfl, hb, HK⟩ := hrel
    have HB := Lib.hid hb
    by_cases hlt : k < n
    · have hlx : k < xs.length := by rw [HL.out]; exact hlt
      obtain ⟨b, o, rfl, hc⟩ := (HA.out.below hb).open hlx
      obtain ⟨c0, c1, c2, c3⟩ := hc k hlx
      have hv := isDel_any xs[k]
      cases hok : (xs[k].k == 0)
      · have HN : Hid (∀ j (h : j < xs.length), j < k + 1 → (xs[j].k == 0) = false) := by
          intro j h hj
          by_cases e : j = k
          · subst e; exact hok
          · exact HK.out j h (by omega)
        rw [hok] at hv
        have HC := Lib.hid hv
        generalize xs[k] = p at c0 c1 c2 c3 HC
        clear hc hok hv hb
        go_wp2_with fail
        refine (HC.out _).mono ?_; rintro e w1 ⟨rfl, hb1⟩
        go_wp2_with fail
        go_roundw
        case rel => exact ⟨k + 1, by omega, by go_num, below_2 HB.out hb1, HN⟩
        case measure => simp [intOf]; omega
      · have HV := Lib.hid (anyDel_hit hlx hok)
        rw [hok] at hv
        have HC := Lib.hid hv
        generalize xs[k] = p at c0 c1 c2 c3 HC
        clear hc hok hv hb
        go_wp2_with fail
        refine (HC.out _).mono ?_; rintro e w1 ⟨rfl, hb1⟩
        go_wp2_with fail
        go_ret
        exact ⟨⟨_, rfl, by rw [HV.out]; exact decide_eq_true (by omega)⟩, below_2 HB.out hb1⟩
    · obtain rfl : n = k := by omega
      have HV : Hid (anyDel xs = false) := anyDel_miss fun j h => HK.out j h (by rw [← HL.out]; exact h)
      go_wp2_with fail
      go_ret
      exact ⟨⟨_, rfl, by rw [HV.out]; rfl⟩, hb⟩
theorem cont_any (a : Option Addr) (c : Nat) (xs : List P) (hx : xs.length ≤ 2932031007402) (w : World) (hA : Prs w a xs) :
    Calls Try.prog 36 #[.slice a xs.length c, .func (Fn.func 37) #[] #[]] w fun e w' => e = .returned (.bool (anyDel xs)) ∧ Below w.heap.size w w' := by
  have HC := Lib.hid (idx_any a c xs hx w hA)
  generalize anyDel xs = D at HC ⊢
  generalize xs.length = n at HC ⊢
  clear hx hA
  go_enter Try.func36, Try.ntmps36
  go_wp2_with fail
  refine HC.out.mono ?_; rintro e w1 ⟨⟨v, rfl, hv⟩, hb1⟩
  have HV := Lib.hid hv
  clear hv
  go_wp2_with fail
  go_ret
  exact ⟨ret_bool (by first | exact HV.out | (rw [← HV.out]; done) | (rw [← HV.out]; simp)), hb1⟩
theorem vw_asc {xs : List P} (h : asc (prs xs) = false) : vw (prs xs) = false := by unfold vw; rw [h, Bool.and_false]
/-- what areWrites has seen of the first k pairs -/
def seen (xs : List P) (k : Nat) : Prop := upto xs k ∧ ∀ j (h : j < xs.length), j < k → V.valid ⟨xs[j].k, xs[j].n, xs[j].s.data.toList⟩ = true
theorem seen_end {xs : List P} (h : seen xs xs.length) : vw (prs xs) = true := by rw [vw_rest fun j hj => h.2 j hj hj]; exact asc_all h.1
theorem seen_next {xs : List P} {k : Nat} (h : seen xs k) (hk : k < xs.length) (hv : K.valid xs[k].key.data.toList = true) (hw : V.valid ⟨xs[k].k, xs[k].n, xs[k].s.data.toList⟩ = true)
    (hu : ∀ m (e : k = m + 1), xs[m].key.data.toList < xs[k].key.data.toList) : seen xs (k + 1) := by
  obtain ⟨⟨h1, h2⟩, h3⟩ := h
  refine ⟨⟨fun j hj hjk => ?_, fun j hj hjk => ?_⟩, fun j hj hjk => ?_⟩
  · by_cases e : j = k
    · subst e; exact hv
    · exact h1 j hj (by omega)
  · by_cases e : j + 1 = k
    · subst e; exact hu j rfl
    · exact h2 j hj (by omega)
  · by_cases e : j = k
    · subst e; exact hw
    · exact h3 j hj (by omega)
theorem at_box (w : World) (p : P) : At (w.alloc (.cells #[.string p.key, .int .i64 p.k, .int .i64 p.n, .string p.s] 33)) w.heap.size 0 p := ⟨by go_simp, by go_simp, by go_simp, by go_simp⟩
set_option maxHeartbeats 4000000 in
set_option maxRecDepth 100000 in
theorem oaw_any (a : Option Addr) (c : Nat) (xs : List P) (hf : Fitz xs) (w : World) (hA : Prs w a xs) :
    Calls Try.prog 35 #[.slice a xs.length c] w fun e w' => e = .returned (.bool (vw (prs xs))) ∧ Below w.heap.size w w' := by
  have hx := hf.len
  have HA := Lib.hid hA
  have HF := Lib.hid hf
  clear hA hf
  obtain ⟨n, hn⟩ : ∃ n, xs.length = n := ⟨_, rfl⟩
  have HL := Lib.hid hn
  rw [hn] at hx ⊢
  clear hn
  go_enter Try.func35, Try.ntmps35
  go_wp2
  go_loopw [8] (fun s8 wr => ∃ k : Nat, k ≤ n ∧ s8 = .int .i64 k ∧ Below w.heap.size w wr ∧ Hid (seen xs k)) (fun s8 _ => n - (intOf s8).toNat)
  case atStart => exact ⟨0, Nat.zero_le _, rfl, Below.refl _ _, ⟨fun j _ h => absurd h (Nat.not_lt_zero _), fun j _ h => absurd h (Nat.not_lt_zero _)⟩, fun j _ h => absurd h (Nat.not_lt_zero _)⟩
  case round =>
    obtain ⟨k, hk, rfl, hb, HK⟩ := hrel
    by_cases hlt : k < n
    · have hlx : k < xs.length := by rw [HL.out]; exact hlt
      obtain ⟨b, o, rfl, hc⟩ := (HA.out.below hb).open hlx
      obtain ⟨z0, z1⟩ := HF.out.at hlx
      have HKV := Lib.hid (K.valid_any xs[k].key (by omega))
      have HVV := Lib.hid (V.ovalid_any xs[k].k xs[k].n xs[k].s (by omega))
      have HV1 := Lib.hid (fun h => vw_asc (asc_key hlx h))
      have HV2 := Lib.hid (fun h => vw_val hlx h)
      have HS0 := Lib.hid (fun h1 h2 hu => seen_next HK.out hlx h1 h2 hu)
      have hbx := below_2 hb (below_box wr (.cells #[.string xs[k].key, .int .i64 xs[k].k, .int .i64 xs[k].n, .string xs[k].s] 33))
      obtain ⟨c0, c1, c2, c3⟩ := hc k hlx
      obtain ⟨b0, b1, b2, b3⟩ := (at_box wr xs[k]).grown
      simp only [Nat.zero_add] at b0 b1 b2 b3
      cases k with
      | zero =>
        have HS := Lib.hid (fun h1 h2 => HS0.out h1 h2 (fun m e => by omega))
        generalize xs[0] = p at c0 c1 c2 c3 b0 b1 b2 b3 HKV HVV HV1 HV2 HS hbx
        simp only [Nat.zero_mul, Nat.add_zero] at c0 c1 c2 c3
        clear hc z0 z1 HS0
        go_wp2_with fail
        refine wp_region_quiet_below (by kernel_rfl) (by kernel_rfl) ?_
        repeat (go_big_quiet_step (fail))
        refine wpQuiet_nil ?_
        intro w4 hw'
        have hb4 : Below (wr.alloc (.cells #[.string p.key, .int .i64 p.k, .int .i64 p.n, .string p.s] 33)).heap.size (wr.alloc (.cells #[.string p.key, .int .i64 p.k, .int .i64 p.n, .string p.s] 33)) w4 := by
          obtain ⟨⟨dq, osq⟩, hw''⟩ := hw'
          rw [hw'']
          exact below_regrown _ dq osq
        clear hw'
        have HB4 := Lib.hid (below_2 hbx hb4)
        have hA4 := (at_box wr p).below hb4 (by simp)
        have HA4 := Lib.hid hA4
        obtain ⟨e0, e1, e2, e3⟩ := hA4
        simp only [Nat.zero_add] at e0 e1 e2 e3
        clear b0 b1 b2 b3 c0 c1 c2 c3
        cases hkv : K.valid p.key.data.toList
        · have HV := Lib.hid (HV1.out hkv)
          have HC := Lib.hid (HKV.out)
          rw [hkv] at HC
          clear hkv
          go_wp2_with fail
          refine (HC.out _).mono ?_; rintro e w5 ⟨rfl, hb5⟩
          go_wp2_with fail
          go_ret
          exact ⟨ret_bool HV.out.symm, below_2 HB4.out hb5⟩
        · have HC := Lib.hid (HKV.out)
          rw [hkv] at HC
          cases hvv : V.valid ⟨p.k, p.n, p.s.data.toList⟩
          · have HV := Lib.hid (HV2.out hvv)
            have HD := Lib.hid (HVV.out)
            rw [hvv] at HD
            clear hkv hvv
            go_wp2_with fail
            refine (HC.out _).mono ?_; rintro e w5 ⟨rfl, hb5⟩
            obtain ⟨f0, f1, f2, f3⟩ := HA4.out.below hb5 HA4.out.lt
            simp only [Nat.zero_add] at f0 f1 f2 f3
            go_wp2_with fail
            refine (HD.out _).mono ?_; rintro e w6 ⟨rfl, hb6⟩
            go_wp2_with fail
            go_ret
            exact ⟨ret_bool HV.out.symm, below_2 (below_2 HB4.out hb5) hb6⟩
          · have HD := Lib.hid (HVV.out)
            rw [hvv] at HD
            have HN := Lib.hid (HS.out hkv hvv)
            clear hkv hvv
            go_wp2_with fail
            refine (HC.out _).mono ?_; rintro e w5 ⟨rfl, hb5⟩
            obtain ⟨f0, f1, f2, f3⟩ := HA4.out.below hb5 HA4.out.lt
            simp only [Nat.zero_add] at f0 f1 f2 f3
            go_wp2_with fail
            refine (HD.out _).mono ?_; rintro e w6 ⟨rfl, hb6⟩
            go_wp2_with fail
            go_roundw
            case rel => exact ⟨0 + 1, by omega, by go_num, below_2 (below_2 HB4.out hb5) hb6, HN⟩
            case measure => simp [intOf]; omega
      | succ m =>
        have hlm : m < xs.length := by omega
        have hm1 := (hc m hlm).below (below_box wr (.cells #[.string xs[m + 1].key, .int .i64 xs[m + 1].k, .int .i64 xs[m + 1].n, .string xs[m + 1].s] 33)) (hc m hlm).lt
        obtain ⟨d0, d1, d2, d3⟩ := hm1.grown
        by_cases hup : xs[m].key.data.toList < xs[m + 1].key.data.toList
        · have bq : Op.bytesLess xs[m].key.toList xs[m + 1].key.toList = true := by rw [K.lss_eq]; exact decide_eq_true hup
          have HS := Lib.hid (fun h1 h2 => HS0.out h1 h2 (fun j e => by cases e; exact hup))
          have bz : ((m : Int) + 1 == 0) = false := beq_eq_false_iff_ne.2 (by omega)
          generalize xs[m + 1] = p at c0 c1 c2 c3 b0 b1 b2 b3 HKV HVV HV1 HV2 HS hbx bq d0
          generalize xs[m] = q at d0 bq
          clear hc z0 z1 HS0 hup d1 d2 d3 hm1
          go_wp2_with fail
          refine wp_region_quiet_below (by kernel_rfl) (by kernel_rfl) ?_
          repeat (go_big_quiet_step (fail))
          refine wpQuiet_nil ?_
          intro w4 hw'
          have hb4 : Below (wr.alloc (.cells #[.string p.key, .int .i64 p.k, .int .i64 p.n, .string p.s] 33)).heap.size (wr.alloc (.cells #[.string p.key, .int .i64 p.k, .int .i64 p.n, .string p.s] 33)) w4 := by
            obtain ⟨⟨dq, osq⟩, hw''⟩ := hw'
            rw [hw'']
            exact below_regrown _ dq osq
          clear hw'
          have HB4 := Lib.hid (below_2 hbx hb4)
          have hA4 := (at_box wr p).below hb4 (by simp)
          have HA4 := Lib.hid hA4
          obtain ⟨e0, e1, e2, e3⟩ := hA4
          simp only [Nat.zero_add] at e0 e1 e2 e3
          clear b0 b1 b2 b3 c0 c1 c2 c3 d0 bq
          cases hkv : K.valid p.key.data.toList
          · have HV := Lib.hid (HV1.out hkv)
            have HC := Lib.hid (HKV.out)
            rw [hkv] at HC
            clear hkv
            go_wp2_with fail
            refine (HC.out _).mono ?_; rintro e w5 ⟨rfl, hb5⟩
            go_wp2_with fail
            go_ret
            exact ⟨ret_bool HV.out.symm, below_2 HB4.out hb5⟩
          · have HC := Lib.hid (HKV.out)
            rw [hkv] at HC
            cases hvv : V.valid ⟨p.k, p.n, p.s.data.toList⟩
            · have HV := Lib.hid (HV2.out hvv)
              have HD := Lib.hid (HVV.out)
              rw [hvv] at HD
              clear hkv hvv
              go_wp2_with fail
              refine (HC.out _).mono ?_; rintro e w5 ⟨rfl, hb5⟩
              obtain ⟨f0, f1, f2, f3⟩ := HA4.out.below hb5 HA4.out.lt
              simp only [Nat.zero_add] at f0 f1 f2 f3
              go_wp2_with fail
              refine (HD.out _).mono ?_; rintro e w6 ⟨rfl, hb6⟩
              go_wp2_with fail
              go_ret
              exact ⟨ret_bool HV.out.symm, below_2 (below_2 HB4.out hb5) hb6⟩
            · have HD := Lib.hid (HVV.out)
              rw [hvv] at HD
              have HN := Lib.hid (HS.out hkv hvv)
              clear hkv hvv
              go_wp2_with fail
              refine (HC.out _).mono ?_; rintro e w5 ⟨rfl, hb5⟩
              obtain ⟨f0, f1, f2, f3⟩ := HA4.out.below hb5 HA4.out.lt
              simp only [Nat.zero_add] at f0 f1 f2 f3
              go_wp2_with fail
              refine (HD.out _).mono ?_; rintro e w6 ⟨rfl, hb6⟩
              go_wp2_with fail
              go_roundw
              case rel => exact ⟨m + 1 + 1, by omega, by go_num, below_2 (below_2 HB4.out hb5) hb6, HN⟩
              case measure => simp [intOf]; omega
        · have HV := Lib.hid (vw_asc (asc_up hlx hup))
          have bq : Op.bytesLess xs[m].key.toList xs[m + 1].key.toList = false := by rw [K.lss_eq]; exact decide_eq_false hup
          have bz : ((m : Int) + 1 == 0) = false := beq_eq_false_iff_ne.2 (by omega)
          generalize xs[m + 1] = p at c0 c1 c2 c3 b0 b1 b2 b3 HKV HVV HV1 HV2 hbx bq d0
          generalize xs[m] = q at d0 bq
          clear hc z0 z1 HS0 hup d1 d2 d3 hm1 HKV HVV HV1 HV2
          go_wp2_with fail
          refine wp_region_quiet_below (by kernel_rfl) (by kernel_rfl) ?_
          repeat (go_big_quiet_step (fail))
          refine wpQuiet_nil ?_
          intro w4 hw'
          have hb4 : Below (wr.alloc (.cells #[.string p.key, .int .i64 p.k, .int .i64 p.n, .string p.s] 33)).heap.size (wr.alloc (.cells #[.string p.key, .int .i64 p.k, .int .i64 p.n, .string p.s] 33)) w4 := by
            obtain ⟨⟨dq, osq⟩, hw''⟩ := hw'
            rw [hw'']
            exact below_regrown _ dq osq
          clear hw'
          clear b0 b1 b2 b3
          have HB4 := Lib.hid (below_2 hbx hb4)
          go_wp2_with fail
          go_ret
          exact ⟨ret_bool HV.out.symm, HB4.out⟩
    · obtain rfl : n = k := by omega
      have HV : Hid (vw (prs xs) = true) := seen_end (by rw [HL.out]; exact HK.out)
      go_wp2_with fail
      go_ret
      exact ⟨ret_bool HV.out.symm, hb⟩
theorem oval_any (a : Option Addr) (c : Nat) (xs : List P) (hf : Fitz xs) (w : World) (hA : Prs w a xs) :
    Calls Try.prog 11 #[.slice a xs.length c] w fun e w' => e = .returned (.bool (vs (prs xs))) ∧ Below w.heap.size w w' := by
  have HV := Lib.hid (oaw_any a c xs hf w hA)
  have HC := Lib.hid (fun w1 (h : Below w.heap.size w w1) => cont_any a c xs hf.len w1 (hA.below h))
  rw [vs_split]
  generalize anyDel xs = D at HC ⊢
  cases hv : vw (prs xs)
  · rw [hv] at HV
    generalize xs.length = n at HV ⊢
    clear hf hA HC hv
    go_enter Try.func11, Try.ntmps11
    go_wp2_with fail
    refine HV.out.mono ?_; rintro e w1 ⟨rfl, hb1⟩
    go_wp2_with fail
    go_ret
    exact ⟨ret_bool (by simp), hb1⟩
  · rw [hv] at HV
    generalize xs.length = n at HV HC ⊢
    clear hf hA hv
    go_enter Try.func11, Try.ntmps11
    go_wp2_with fail
    refine HV.out.mono ?_; rintro e w1 ⟨rfl, hb1⟩
    have HB1 := Lib.hid hb1
    go_wp2_with fail
    refine (HC.out _ HB1.out).mono ?_; rintro e w2 ⟨rfl, hb2⟩
    go_wp2_with fail
    go_ret
    exact ⟨ret_bool (by simp), below_2 HB1.out hb2⟩

/-! ### Same -/

set_option maxHeartbeats 2000000 in
set_option maxRecDepth 100000 in
theorem oequal_any (a b : Option Addr) (c d : Nat) (xs ys : List P) (hx : xs.length ≤ 2932031007402) (w : World) (hA : Prs w a xs) (hB : Prs w b ys) :
    Calls Try.prog 40 #[.slice a xs.length c, .slice b ys.length d] w fun e w' => e = .returned (.bool (same xs ys)) ∧ Below w.heap.size w w' := by
  by_cases hnm : xs.length = ys.length
  · have HN := Lib.hid hnm
    rw [← hnm]
    have HA := Lib.hid hA
    have HB := Lib.hid hB
    clear hA hB hnm
    obtain ⟨n, hn⟩ : ∃ n, xs.length = n := ⟨_, rfl⟩
    have HL := Lib.hid hn
    rw [hn] at hx ⊢
    clear hn
    go_enter Try.func40, Try.ntmps40
    go_wp2
    go_loopw [13] (fun s13 wr => ∃ k : Nat, k ≤ n ∧ s13 = .int .i64 k ∧ Below w.heap.size w wr ∧ Hid (∀ j (h1 : j < xs.length) (h2 : j < ys.length), j < k → eqP xs[j] ys[j] = true)) (fun s13 _ => n - (intOf s13).toNat)
    case atStart => exact ⟨0, Nat.zero_le _, rfl, Below.refl _ _, fun j _ _ h => absurd h (Nat.not_lt_zero _)⟩
    case round =>
      obtain ⟨k, hk, rfl, hb, HK⟩ := hrel
      by_cases hlt : k < n
      · have hlx : k < xs.length := by rw [HL.out]; exact hlt
        have hly : k < ys.length := by rw [← HN.out]; exact hlx
        obtain ⟨b1, o1, rfl, hc⟩ := (HA.out.below hb).open hlx
        obtain ⟨b2, o2, rfl, hd⟩ := (HB.out.below hb).open hly
        obtain ⟨c0, c1, c2, c3⟩ := (hc k hlx).grown
        obtain ⟨d0, d1, d2, d3⟩ := (hd k hly).grown
        have he := run_neq_pair xs[k] ys[k]
        cases hq : eqP xs[k] ys[k]
        · have HV := Lib.hid (same_elem hlx hly hq)
          rw [hq] at he
          generalize xs[k] = p at c0 c1 c2 c3 he
          generalize ys[k] = q at d0 d1 d2 d3 he
          clear hq hc hd
          go_wp2_with fail
          refine wp_region_quiet_below (by kernel_rfl) (by kernel_rfl) ?_
          repeat (go_big_quiet_step (fail))
          refine wpQuiet_nil ?_
          intro w4 hw'
          have hb4 : Below wr.heap.size wr w4 := by
            obtain ⟨⟨dq, osq⟩, hw''⟩ := hw'
            rw [hw'']
            exact below_regrown _ dq osq
          clear hw'
          go_wp2_with fail
          go_ret
          exact ⟨ret_bool HV.out.symm, below_2 hb hb4⟩
        · have HK2 : Hid (∀ j (h1 : j < xs.length) (h2 : j < ys.length), j < k + 1 → eqP xs[j] ys[j] = true) := by
            intro j h1 h2 hj
            by_cases e : j = k
            · subst e; exact hq
            · exact HK.out j h1 h2 (by omega)
          rw [hq] at he
          generalize xs[k] = p at c0 c1 c2 c3 he
          generalize ys[k] = q at d0 d1 d2 d3 he
          clear hq hc hd
          go_wp2_with fail
          refine wp_region_quiet_below (by kernel_rfl) (by kernel_rfl) ?_
          repeat (go_big_quiet_step (fail))
          refine wpQuiet_nil ?_
          intro w4 hw'
          have hb4 : Below wr.heap.size wr w4 := by
            obtain ⟨⟨dq, osq⟩, hw''⟩ := hw'
            rw [hw'']
            exact below_regrown _ dq osq
          clear hw'
          go_wp2_with fail
          go_roundw
          case rel => exact ⟨k + 1, by omega, by go_num, below_2 hb hb4, HK2⟩
          case measure => simp [intOf]; omega
      · obtain rfl : n = k := by omega
        have HV : Hid (same xs ys = true) := same_all HN.out fun j h1 h2 => HK.out j h1 h2 (by rw [← HL.out]; exact h1)
        go_wp2_with fail
        go_ret
        exact ⟨ret_bool HV.out.symm, hb⟩
  · have HV := Lib.hid (same_len hnm)
    have bn : ((xs.length : Int) != (ys.length : Int)) = true := bne_iff_ne.2 (by omega)
    clear hA hB hnm
    go_enter Try.func40, Try.ntmps40
    go_wp2
    go_ret
    exact ⟨ret_bool HV.out.symm, Below.refl _ _⟩
theorem osame_any (a b : Option Addr) (c d : Nat) (xs ys : List P) (hx : xs.length ≤ 2932031007402) (w : World) (hA : Prs w a xs) (hB : Prs w b ys) :
    Calls Try.prog 14 #[.slice a xs.length c, .slice b ys.length d] w fun e w' => e = .returned (.bool (same xs ys)) ∧ Below w.heap.size w w' := by
  have HC := Lib.hid (oequal_any a b c d xs ys hx w hA hB)
  generalize same xs ys = S at HC ⊢
  generalize xs.length = n at HC ⊢
  generalize ys.length = m at HC ⊢
  clear hx hA hB
  go_enter Try.func14, Try.ntmps14
  go_wp2_with fail
  refine HC.out.mono ?_; rintro e w1 ⟨rfl, hb1⟩
  go_wp2_with fail
  go_ret
  exact ⟨rfl, hb1⟩

/-! ### copiedValue, byKey -/

set_option maxRecDepth 100000 in
theorem ocv_any (k n : Int) (s : ByteArray) (hs : s.size ≤ 281474976710656) (w : World) :
    Calls Try.prog 41 #[.agg #[.int .i64 k, .int .i64 n, .string s]] w fun e w' => e = .returned (.agg #[.int .i64 k, .int .i64 n, .string s]) ∧ Below w.heap.size w w' := by
  have HC := Lib.hid (fun w => W.clone_any s w hs)
  have HM1 := Lib.hid (V.Mine.new w k n s)
  have hm2 := V.Mine.new (w.alloc (.cells #[.int .i64 k, .int .i64 n, .string s] 30)) 0 0 ⟨#[]⟩
  rw [show (w.alloc (.cells #[.int .i64 k, .int .i64 n, .string s] 30)).heap.size = w.heap.size + 1 from by simp] at hm2
  have HM2 := Lib.hid hm2
  have HH := Lib.hid (V.Has.box w k n s)
  have HW := Lib.hid (fun x => below_box2 w (.cells #[.int .i64 k, .int .i64 n, .string s] 30) x)
  clear hs hm2
  go_enter Try.func41, Try.ntmps41
  go_wp2_with fail
  refine (HC.out _).mono ?_; rintro e w2 ⟨rfl, hb2⟩
  have hh := (HH.out.alloc (by simp) _).below hb2 (by simp; omega)
  obtain ⟨x0, x1, x2⟩ := hh
  obtain ⟨-, d0, d1, d2⟩ := ((HM1.out.below (below_box _ _) (by simp))).below hb2 (by simp; omega)
  obtain ⟨⟨y0, y1, y2, f0, f1, f2⟩, g0, g1, g2⟩ := HM2.out.below hb2 (by simp)
  have HB2 := Lib.hid (below_2 (HW.out _) hb2)
  go_wp2_with fail
  obtain ⟨q0, q1, q2⟩ := V.stored (w := w2.setCell ⟨w.heap.size, 2, none⟩ (.string s)) (b := w.heap.size + 1) (k := y0) (n := y1) (s := y2) ⟨by go_simp, by go_simp, by go_simp⟩ k n s
  refine bodyPost_ret (v := .agg #[.int .i64 k, .int .i64 n, .string s]) (by simp [results, Try.results41, go_sem, q0, q1, q2]) rfl ⟨rfl, V.stored_below (HB2.out.setCell (Nat.le_refl _) _) (by omega) _ _ _⟩
theorem byKey_any (p q : P) (w : World) :
    Calls Try.prog 32 #[.agg #[.string p.key, .int .i64 p.k, .int .i64 p.n, .string p.s], .agg #[.string q.key, .int .i64 q.k, .int .i64 q.n, .string q.s]] w fun e w' => e = .returned (.int .i64 (V.cs p.key.data.toList q.key.data.toList)) ∧ Below w.heap.size w w' := by
  have HC := Lib.hid (V.cmpS_any p.key q.key)
  have HW := Lib.hid (below_box2 w (.cells #[.string p.key, .int .i64 p.k, .int .i64 p.n, .string p.s] 33) (.cells #[.string q.key, .int .i64 q.k, .int .i64 q.n, .string q.s] 33))
  go_enter Try.func32, Try.ntmps32
  go_wp2_with fail
  refine (HC.out _).mono ?_; rintro e w1 ⟨rfl, rfl⟩
  go_wp2_with fail
  go_ret
  exact ⟨rfl, HW.out⟩
end Go.Proofs.Ytieloegadhgipaa.S
