/-
  What the reference of layer 6 returns: ascending, ValidWrites, Valid, Has, Get, Same: contracts, one a function.
-/
import Derived.Test.YtieloegadhgipaaSMem
namespace Go.Proofs.Ytieloegadhgipaa.S
open Go.RowKit
open Go.Proofs.Ytieloegadhgipaa.V (ret_bool ret_int ret_string below_2 below_box below_box2)

/-! ### Valid and what it calls, of the reference -/

theorem mem_prs {xs : List P} {k : Nat} (h : k < xs.length) : xs[k].pr ∈ prs xs := List.mem_map.2 ⟨xs[k], List.getElem_mem h, rfl⟩
theorem of_prs {xs : List P} {p : Pr} (h : p ∈ prs xs) : ∃ k, ∃ h : k < xs.length, xs[k].pr = p := by
  obtain ⟨x, hx, e⟩ := List.mem_map.1 h
  obtain ⟨j, hj, rfl⟩ := List.mem_iff_getElem.1 hx
  exact ⟨j, hj, e⟩
theorem asc_iff {l : List Pr} : asc l = true ↔ (∀ p ∈ l, K.valid p.1 = true) ∧ up l := by
  unfold asc; rw [Bool.and_eq_true, List.all_eq_true, decide_eq_true_iff]
/-- the first k keys are valid and ascend -/
def upto (xs : List P) (k : Nat) : Prop := (∀ j (h : j < xs.length), j < k → K.valid xs[j].key.data.toList = true) ∧ (∀ j (h : j + 1 < xs.length), j + 1 < k → xs[j].key.data.toList < xs[j + 1].key.data.toList)
theorem asc_key {xs : List P} {k : Nat} (h : k < xs.length) (hk : K.valid xs[k].key.data.toList = false) : asc (prs xs) = false := by
  cases hv : asc (prs xs)
  · rfl
  · have := (asc_iff.1 hv).1 _ (mem_prs h)
    rw [show (xs[k].pr).1 = xs[k].key.data.toList from rfl, hk] at this
    cases this
theorem asc_up {xs : List P} {k : Nat} (h : k + 1 < xs.length) (hk : ¬ xs[k].key.data.toList < xs[k + 1].key.data.toList) : asc (prs xs) = false := by
  cases hv : asc (prs xs)
  · rfl
  · have h2 := (asc_iff.1 hv).2
    unfold up prs at h2
    rw [List.pairwise_map, List.pairwise_iff_getElem] at h2
    exact absurd (h2 k (k + 1) (by omega) h (by omega)) hk
theorem asc_all {xs : List P} (h : upto xs xs.length) : asc (prs xs) = true := by
  obtain ⟨h1, h2⟩ := h
  refine asc_iff.2 ⟨fun p hp => ?_, ?_⟩
  · obtain ⟨k, hk, rfl⟩ := of_prs hp
    exact h1 k hk hk
  · unfold up prs
    rw [List.pairwise_map, List.pairwise_iff_getElem]
    have key : ∀ (m i : Nat) (hi : i + m + 1 < xs.length), xs[i].key.data.toList < xs[i + m + 1].key.data.toList := by
      intro m
      induction m with
      | zero => intro i hi; exact h2 i hi hi
      | succ m ih => intro i hi; exact lt_tra (ih i (by omega)) (h2 (i + m + 1) hi hi)
    intro i j hi hj hij
    obtain ⟨m, rfl⟩ : ∃ m, j = i + m + 1 := ⟨j - i - 1, by omega⟩
    exact key m i hj
set_option maxHeartbeats 2000000 in
set_option maxRecDepth 100000 in
theorem rasc_any (a : Option Addr) (c : Nat) (xs : List P) (hx : xs.length ≤ 1000000000000) (hz : ∀ p ∈ xs, p.key.size ≤ 9223372036854775807) {w : World} (hA : Prs w a xs) :
    Calls Try.prog 65 #[.slice a xs.length c] w fun e w' => e = .returned (.bool (asc (prs xs))) ∧ Below w.heap.size w w' := by
  have HA := Lib.hid hA
  have HZ := Lib.hid hz
  clear hA hz
  obtain ⟨n, hn⟩ : ∃ n, xs.length = n := ⟨_, rfl⟩
  have HL := Lib.hid hn
  rw [hn] at hx ⊢
  clear hn
  go_enter Try.func65, Try.ntmps65
  go_wp2
  go_loopw [3] (fun s3 wr => ∃ k : Nat, k ≤ n ∧ s3 = .int .i64 k ∧ Below w.heap.size w wr ∧ Hid (upto xs k)) (fun s3 _ => n - (intOf s3).toNat)
  case atStart => exact ⟨0, Nat.zero_le _, rfl, Below.refl _ _, ⟨fun j _ h => absurd h (Nat.not_lt_zero _), fun j _ h => absurd h (Nat.not_lt_zero _)⟩⟩
  case round =>
    obtain ⟨k, hk, rfl, hb, HK⟩ := hrel
    by_cases hlt : k < n
    · have hlx : k < xs.length := by rw [HL.out]; exact hlt
      obtain ⟨b, o, rfl, hc⟩ := (HA.out.below hb).open hlx
      have hv := K.rvalid_any xs[k].key (HZ.out _ (List.getElem_mem hlx))
      obtain ⟨c0, c1, c2, c3⟩ := (hc k hlx).grown
      cases hok : K.valid xs[k].key.data.toList
      · have HV := Lib.hid (asc_key hlx hok)
        rw [hok] at hv
        have HC := Lib.hid (grownS (W := wr) hv)
        generalize xs[k] = p at c0 HC
        clear hc hok HK hv c1 c2 c3
        go_wp2_with fail
        refine wp_region_quiet_below (by kernel_rfl) (by kernel_rfl) ?_
        repeat (go_big_quiet_step (with_reducible exact HC.out _ _))
        refine wpQuiet_nil ?_
        intro w4 hw'
        have hb4 : Below wr.heap.size wr w4 := by
          obtain ⟨⟨dq, osq⟩, hw''⟩ := hw'
          rw [hw'']
          exact below_regrown _ dq osq
        clear hw'
        go_wp2_with fail
        go_ret
        exact ⟨ret_bool HV.out.symm, below_2 hb hb4⟩
      · cases k with
        | zero =>
          have HN : Hid (upto xs 1) := ⟨fun j h hj => by obtain rfl : j = 0 := by omega
                                                         exact hok, fun j h hj => absurd hj (by omega)⟩
          rw [hok] at hv
          have HC := Lib.hid (grownS (W := wr) hv)
          generalize xs[0] = p at c0 HC
          simp only [Nat.zero_mul, Nat.add_zero] at c0
          clear hc hok HK hv c1 c2 c3
          go_wp2_with fail
          refine wp_region_quiet_below (by kernel_rfl) (by kernel_rfl) ?_
          repeat (go_big_quiet_step (with_reducible exact HC.out _ _))
          refine wpQuiet_nil ?_
          intro w4 hw'
          have hb4 : Below wr.heap.size wr w4 := by
            obtain ⟨⟨dq, osq⟩, hw''⟩ := hw'
            rw [hw'']
            exact below_regrown _ dq osq
          clear hw'
          go_wp2_with fail
          go_roundw
          case rel => exact ⟨1, by omega, by go_num, below_2 hb hb4, HN⟩
          case measure => simp [intOf]; omega
        | succ m =>
          have hlm : m < xs.length := by omega
          obtain ⟨d0, d1, d2, d3⟩ := (hc m hlm).grown
          rw [hok] at hv
          have HC := Lib.hid (grownS (W := wr) hv)
          by_cases hup : xs[m].key.data.toList < xs[m + 1].key.data.toList
          · have HN : Hid (upto xs (m + 1 + 1)) := by
              refine ⟨fun j h hj => ?_, fun j h hj => ?_⟩
              · by_cases e : j = m + 1
                · subst e; exact hok
                · exact HK.out.1 j h (by omega)
              · by_cases e : j = m
                · subst e; exact hup
                · exact HK.out.2 j h (by omega)
            have bq : (Op.bytesLess xs[m + 1].key.toList xs[m].key.toList || xs[m + 1].key.toList == xs[m].key.toList) = false := by
              rw [K.leq_eq]; exact decide_eq_false (fun h => h hup)
            generalize xs[m + 1] = p at c0 HC bq
            generalize xs[m] = q at d0 bq
            clear hc hok hup hv c1 c2 c3 d1 d2 d3
            go_wp2_with fail
            refine wp_region_quiet_below (by kernel_rfl) (by kernel_rfl) ?_
            repeat (go_big_quiet_step (with_reducible exact HC.out _ _))
            refine wpQuiet_nil ?_
            intro w4 hw'
            have hb4 : Below wr.heap.size wr w4 := by
              obtain ⟨⟨dq, osq⟩, hw''⟩ := hw'
              rw [hw'']
              exact below_regrown _ dq osq
            clear hw'
            go_wp2_with fail
            go_roundw
            case rel => exact ⟨m + 1 + 1, by omega, by go_num, below_2 hb hb4, HN⟩
            case measure => simp [intOf]; omega
          · have HV := Lib.hid (asc_up hlx hup)
            have bq : (Op.bytesLess xs[m + 1].key.toList xs[m].key.toList || xs[m + 1].key.toList == xs[m].key.toList) = true := by
              rw [K.leq_eq]; exact decide_eq_true hup
            generalize xs[m + 1] = p at c0 HC bq
            generalize xs[m] = q at d0 bq
            clear hc hok hup hv c1 c2 c3 d1 d2 d3
            go_wp2_with fail
            refine wp_region_quiet_below (by kernel_rfl) (by kernel_rfl) ?_
            repeat (go_big_quiet_step (with_reducible exact HC.out _ _))
            refine wpQuiet_nil ?_
            intro w4 hw'
            have hb4 : Below wr.heap.size wr w4 := by
              obtain ⟨⟨dq, osq⟩, hw''⟩ := hw'
              rw [hw'']
              exact below_regrown _ dq osq
            clear hw'
            go_wp2_with fail
            go_ret
            exact ⟨ret_bool HV.out.symm, below_2 hb hb4⟩
    · obtain rfl : n = k := by omega
      have HV : Hid (asc (prs xs) = true) := asc_all (by rw [HL.out]; exact HK.out)
      go_wp2_with fail
      go_ret
      exact ⟨ret_bool HV.out.symm, hb⟩
theorem vs_kind {xs : List P} {k : Nat} (h : k < xs.length) (hk : xs[k].k = 0) : vs (prs xs) = false := by
  cases hv : vs (prs xs)
  · rfl
  · exact absurd hk ((vs_iff.1 hv).1 _ (List.mem_map.2 ⟨xs[k], List.getElem_mem h, rfl⟩))
theorem vs_rest {xs : List P} (h : ∀ j (h : j < xs.length), xs[j].k ≠ 0) : vs (prs xs) = vw (prs xs) := by
  cases hv : vw (prs xs)
  · cases hs : vs (prs xs)
    · rfl
    · rw [(vs_iff.1 hs).2] at hv; cases hv
  · refine vs_iff.2 ⟨fun p hp => ?_, hv⟩
    obtain ⟨x, hx, rfl⟩ := List.mem_map.1 hp
    obtain ⟨j, hj, rfl⟩ := List.mem_iff_getElem.1 hx
    exact h j hj
set_option maxHeartbeats 1000000 in
set_option maxRecDepth 100000 in
theorem rvs_any (a : Option Addr) (c : Nat) (xs : List P) (hx : xs.length ≤ 1000000000000) {w : World} (hA : Prs w a xs)
    (HW : Hid (∀ w, Prs w a xs → Calls Try.prog 42 #[.slice a xs.length c] w fun e w' => e = .returned (.bool (vw (prs xs))) ∧ Below w.heap.size w w')) :
    Calls Try.prog 21 #[.slice a xs.length c] w fun e w' => e = .returned (.bool (vs (prs xs))) ∧ Below w.heap.size w w' := by
  have HA := Lib.hid hA
  clear hA
  obtain ⟨n, hn⟩ : ∃ n, xs.length = n := ⟨_, rfl⟩
  have HL := Lib.hid hn
  rw [hn] at HW ⊢
  rw [hn] at hx
  clear hn
  go_enter Try.func21, Try.ntmps21
  go_wp2
  go_loopw [3] (fun s3 wr => ∃ k : Nat, k ≤ n ∧ s3 = .int .i64 k ∧ wr = w ∧ ∀ j (h : j < xs.length), j < k → xs[j].k ≠ 0) (fun s3 _ => n - (intOf s3).toNat)
  case atStart => exact ⟨0, Nat.zero_le _, rfl, rfl, fun j _ h => absurd h (Nat.not_lt_zero _)⟩
  case round =>
    obtain ⟨k, hk, rfl, rfl, hall⟩ := hrel
    have HK := Lib.hid hall
    clear hall
    by_cases hlt : k < n
    · have hlx : k < xs.length := by rw [HL.out]; exact hlt
      obtain ⟨b, o, rfl, hc⟩ := HA.out.open hlx
      obtain ⟨c0, c1, c2, c3⟩ := hc k hlx
      by_cases hz : xs[k].k = 0
      · have HV := Lib.hid (vs_kind hlx hz)
        have b0 : (xs[k].k == 0) = true := beq_iff_eq.2 hz
        generalize xs[k] = p at c0 c1 c2 c3 b0
        clear hc hz HK
        go_wp2_with fail
        go_ret
        exact ⟨ret_bool HV.out.symm, Below.refl _ _⟩
      · have HN : Hid (∀ j (h : j < xs.length), j < k + 1 → xs[j].k ≠ 0) := by
          intro j h hj
          by_cases e : j = k
          · subst e; exact hz
          · exact HK.out j h (by omega)
        have b0 : (xs[k].k == 0) = false := beq_eq_false_iff_ne.2 hz
        generalize xs[k] = p at c0 c1 c2 c3 b0
        clear hc hz
        go_wp2_with fail
        go_roundw
        case rel => exact ⟨k + 1, by omega, by go_num, by first | rfl | trivial, HN.out⟩
        case measure => simp [intOf]; omega
    · obtain rfl : n = k := by omega
      have HV : Hid (vs (prs xs) = vw (prs xs)) := vs_rest fun j h => HK.out j h (by rw [← HL.out]; exact h)
      go_wp2_with fail
      refine (HW.out _ HA.out).mono ?_; rintro e w1 ⟨rfl, hb1⟩
      go_wp2_with fail
      go_ret
      exact ⟨ret_bool HV.out.symm, hb1⟩
end Go.Proofs.Ytieloegadhgipaa.S
