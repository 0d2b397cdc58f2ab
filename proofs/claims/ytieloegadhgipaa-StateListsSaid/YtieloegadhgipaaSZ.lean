/-
  What the reference of layer 6 returns for every list that memory can hold (Valid, Get, Same, Slice); the laws on Valid, Get, Slice and Same and on Slice and Union, walked for such lists.
-/
import Derived.Test.YtieloegadhgipaaSOM
import Derived.Test.YtieloegadhgipaaSLawsF
namespace Go.Proofs.Ytieloegadhgipaa.S
open Go.RowKit
open Go.Proofs.Ytieloegadhgipaa.V (ret_bool ret_int ret_string below_2 below_box below_box2 size_len)

set_option maxHeartbeats 2000000 in
set_option maxRecDepth 100000 in
theorem rasc_anyZ (a : Option Addr) (c : Nat) (xs : List P) (hx : xs.length ≤ 2932031007402) (hz : ∀ p ∈ xs, p.key.size ≤ 9223372036854775807) {w : World} (hA : Prs w a xs) :
    Calls Try.prog 65 #[.slice a xs.length c] w fun e w' => e = .returned (.bool (asc (prs xs))) ∧ Below w.heap.size w w' := by
  have HA := Lib.hid hA
  have HZ := Lib.hid hz
  clear hA hz
  obtain ⟨n, hn⟩ : ∃ n, xs.length = n := ⟨_, rfl⟩
  have HL := Lib.hid hn
  rw [hn] at hx ⊢
  clear hn
  go_enter Try.func65, Try.ntmps65
  go_wp2
  go_loopw [3] (fun s3 wr => ∃ k : Nat, k ≤ n ∧ s3 = .int .i64 k ∧ Below w.heap.size w wr ∧ Hid (upto xs k)) (fun s3 _ => n - (intOf s3).toNat)
  case atStart => exact ⟨0, Nat.zero_le _, rfl, Below.refl _ _, ⟨fun j _ h => absurd h (Nat.not_lt_zero _), fun j _ h => absurd h (Nat.not_lt_zero _)⟩⟩
  case round =>
    obtain ⟨k, hk, rfl, hb, HK⟩ := hrel
    by_cases hlt : k < n
    · have hlx : k < xs.length := by rw [HL.out]; exact hlt
      obtain ⟨b, o, rfl, hc⟩ := (HA.out.below hb).open hlx
      have hv := K.rvalid_any xs[k].key (HZ.out _ (List.getElem_mem hlx))
      obtain ⟨c0, c1, c2, c3⟩ := (hc k hlx).grown
      cases hok : K.valid xs[k].key.data.toList
      · have HV := Lib.hid (asc_key hlx hok)
        rw [hok] at hv
        have HC := Lib.hid (grownS (W := wr) hv)
        generalize xs[k] = p at c0 HC
        clear hc hok HK hv c1 c2 c3
        go_wp2_with fail
        refine wp_region_quiet_below (by kernel_rfl) (by kernel_rfl) ?_
        repeat (go_big_quiet_step (with_reducible exact HC.out _ _))
        refine wpQuiet_nil ?_
        intro w4 hw'
        have hb4 : Below wr.heap.size wr w4 := by
          obtain ⟨⟨dq, osq⟩, hw''⟩ := hw'
          rw [hw'']
          exact below_regrown _ dq osq
        clear hw'
        go_wp2_with fail
        go_ret
        exact ⟨ret_bool HV.out.symm, below_2 hb hb4⟩
      · cases k with
        | zero =>
          have HN : Hid (upto xs 1) := ⟨fun j h hj => by obtain rfl : j = 0 := by omega
                                                         exact hok, fun j h hj => absurd hj (by omega)⟩
          rw [hok] at hv
          have HC := Lib.hid (grownS (W := wr) hv)
          generalize xs[0] = p at c0 HC
          simp only [Nat.zero_mul, Nat.add_zero] at c0
          clear hc hok HK hv c1 c2 c3
          go_wp2_with fail
          refine wp_region_quiet_below (by kernel_rfl) (by kernel_rfl) ?_
          repeat (go_big_quiet_step (with_reducible exact HC.out _ _))
          refine wpQuiet_nil ?_
          intro w4 hw'
          have hb4 : Below wr.heap.size wr w4 := by
            obtain ⟨⟨dq, osq⟩, hw''⟩ := hw'
            rw [hw'']
            exact below_regrown _ dq osq
          clear hw'
          go_wp2_with fail
          go_roundw
          case rel => exact ⟨1, by omega, by go_num, below_2 hb hb4, HN⟩
          case measure => simp [intOf]; omega
        | succ m =>
          have hlm : m < xs.length := by omega
          obtain ⟨d0, d1, d2, d3⟩ := (hc m hlm).grown
          rw [hok] at hv
          have HC := Lib.hid (grownS (W := wr) hv)
          by_cases hup : xs[m].key.data.toList < xs[m + 1].key.data.toList
          · have HN : Hid (upto xs (m + 1 + 1)) := by
              refine ⟨fun j h hj => ?_, fun j h hj => ?_⟩
              · by_cases e : j = m + 1
                · subst e; exact hok
                · exact HK.out.1 j h (by omega)
              · by_cases e : j = m
                · subst e; exact hup
                · exact HK.out.2 j h (by omega)
            have bq : (Op.bytesLess xs[m + 1].key.toList xs[m].key.toList || xs[m + 1].key.toList == xs[m].key.toList) = false := by
              rw [K.leq_eq]; exact decide_eq_false (fun h => h hup)
            generalize xs[m + 1] = p at c0 HC bq
            generalize xs[m] = q at d0 bq
            clear hc hok hup hv c1 c2 c3 d1 d2 d3
            go_wp2_with fail
            refine wp_region_quiet_below (by kernel_rfl) (by kernel_rfl) ?_
            repeat (go_big_quiet_step (with_reducible exact HC.out _ _))
            refine wpQuiet_nil ?_
            intro w4 hw'
            have hb4 : Below wr.heap.size wr w4 := by
              obtain ⟨⟨dq, osq⟩, hw''⟩ := hw'
              rw [hw'']
              exact below_regrown _ dq osq
            clear hw'
            go_wp2_with fail
            go_roundw
            case rel => exact ⟨m + 1 + 1, by omega, by go_num, below_2 hb hb4, HN⟩
            case measure => simp [intOf]; omega
          · have HV := Lib.hid (asc_up hlx hup)
            have bq : (Op.bytesLess xs[m + 1].key.toList xs[m].key.toList || xs[m + 1].key.toList == xs[m].key.toList) = true := by
              rw [K.leq_eq]; exact decide_eq_true hup
            generalize xs[m + 1] = p at c0 HC bq
            generalize xs[m] = q at d0 bq
            clear hc hok hup hv c1 c2 c3 d1 d2 d3
            go_wp2_with fail
            refine wp_region_quiet_below (by kernel_rfl) (by kernel_rfl) ?_
            repeat (go_big_quiet_step (with_reducible exact HC.out _ _))
            refine wpQuiet_nil ?_
            intro w4 hw'
            have hb4 : Below wr.heap.size wr w4 := by
              obtain ⟨⟨dq, osq⟩, hw''⟩ := hw'
              rw [hw'']
              exact below_regrown _ dq osq
            clear hw'
            go_wp2_with fail
            go_ret
            exact ⟨ret_bool HV.out.symm, below_2 hb hb4⟩
    · obtain rfl : n = k := by omega
      have HV : Hid (asc (prs xs) = true) := asc_all (by rw [HL.out]; exact HK.out)
      go_wp2_with fail
      go_ret
      exact ⟨ret_bool HV.out.symm, hb⟩
set_option maxHeartbeats 2000000 in
set_option maxRecDepth 100000 in
theorem rvw_anyZ (a : Option Addr) (c : Nat) (xs : List P) (hf : Fitz xs) (w : World) (hA : Prs w a xs) :
    Calls Try.prog 42 #[.slice a xs.length c] w fun e w' => e = .returned (.bool (vw (prs xs))) ∧ Below w.heap.size w w' := by
  have hx := hf.len
  have HA := Lib.hid hA
  have HF := Lib.hid hf
  have HS := Lib.hid (fun (wr : World) (h : Prs wr a xs) => rasc_anyZ a c xs hf.len (fun p hp => by have := (hf.sz p hp).1; omega) h)
  clear hA hf
  obtain ⟨n, hn⟩ : ∃ n, xs.length = n := ⟨_, rfl⟩
  have HL := Lib.hid hn
  rw [hn] at HS ⊢
  rw [hn] at hx
  clear hn
  go_enter Try.func42, Try.ntmps42
  go_wp2
  go_loopw [3] (fun s3 wr => ∃ k : Nat, k ≤ n ∧ s3 = .int .i64 k ∧ Below w.heap.size w wr ∧ Hid (∀ j (h : j < xs.length), j < k → V.valid ⟨xs[j].k, xs[j].n, xs[j].s.data.toList⟩ = true)) (fun s3 _ => n - (intOf s3).toNat)
  case atStart => exact ⟨0, Nat.zero_le _, rfl, Below.refl _ _, fun j _ h => absurd h (Nat.not_lt_zero _)⟩
  case round =>
    obtain ⟨k, hk, rfl, hb, HK⟩ := hrel
    have HB := Lib.hid hb
    by_cases hlt : k < n
    · have hlx : k < xs.length := by rw [HL.out]; exact hlt
      obtain ⟨b, o, rfl, hc⟩ := (HA.out.below hb).open hlx
      obtain ⟨z0, z1⟩ := HF.out.at hlx
      have hv := V.rvalid_any xs[k].k xs[k].n xs[k].s (by omega)
      obtain ⟨c0, c1, c2, c3⟩ := hc k hlx
      cases hok : V.valid ⟨xs[k].k, xs[k].n, xs[k].s.data.toList⟩
      · have HV := Lib.hid (vw_val hlx hok)
        rw [hok] at hv
        have HC := Lib.hid hv
        generalize xs[k] = p at c0 c1 c2 c3 HC
        clear hc hok hv z0 z1 hb
        go_wp2_with fail
        refine (HC.out _).mono ?_; rintro e w1 ⟨rfl, hb1⟩
        go_wp2_with fail
        go_ret
        exact ⟨ret_bool HV.out.symm, below_2 HB.out hb1⟩
      · have HN : Hid (∀ j (h : j < xs.length), j < k + 1 → V.valid ⟨xs[j].k, xs[j].n, xs[j].s.data.toList⟩ = true) := by
          intro j h hj
          by_cases e : j = k
          · subst e; exact hok
          · exact HK.out j h (by omega)
        rw [hok] at hv
        have HC := Lib.hid hv
        generalize xs[k] = p at c0 c1 c2 c3 HC
        clear hc hok hv z0 z1 hb
        go_wp2_with fail
        refine (HC.out _).mono ?_; rintro e w1 ⟨rfl, hb1⟩
        go_wp2_with fail
        go_roundw
        case rel => exact ⟨k + 1, by omega, by go_num, below_2 HB.out hb1, HN⟩
        case measure => simp [intOf]; omega
    · obtain rfl : n = k := by omega
      have HV : Hid (vw (prs xs) = asc (prs xs)) := vw_rest fun j h => HK.out j h (by rw [← HL.out]; exact h)
      have HG := Lib.hid (HS.out wr (HA.out.below hb))
      clear hb
      go_wp2_with fail
      refine HG.out.mono ?_; rintro e w1 ⟨rfl, hb1⟩
      go_wp2_with fail
      go_ret
      exact ⟨ret_bool HV.out.symm, below_2 HB.out hb1⟩
set_option maxHeartbeats 1000000 in
set_option maxRecDepth 100000 in
theorem rvs_anyZ (a : Option Addr) (c : Nat) (xs : List P) (hx : xs.length ≤ 2932031007402) {w : World} (hA : Prs w a xs)
    (HW : Hid (∀ w, Prs w a xs → Calls Try.prog 42 #[.slice a xs.length c] w fun e w' => e = .returned (.bool (vw (prs xs))) ∧ Below w.heap.size w w')) :
    Calls Try.prog 21 #[.slice a xs.length c] w fun e w' => e = .returned (.bool (vs (prs xs))) ∧ Below w.heap.size w w' := by
  have HA := Lib.hid hA
  clear hA
  obtain ⟨n, hn⟩ : ∃ n, xs.length = n := ⟨_, rfl⟩
  have HL := Lib.hid hn
  rw [hn] at HW ⊢
  rw [hn] at hx
  clear hn
  go_enter Try.func21, Try.ntmps21
  go_wp2
  go_loopw [3] (fun s3 wr => ∃ k : Nat, k ≤ n ∧ s3 = .int .i64 k ∧ wr = w ∧ ∀ j (h : j < xs.length), j < k → xs[j].k ≠ 0) (fun s3 _ => n - (intOf s3).toNat)
  case atStart => exact ⟨0, Nat.zero_le _, rfl, rfl, fun j _ h => absurd h (Nat.not_lt_zero _)⟩
  case round =>
    obtain ⟨k, hk, rfl, rfl, hall⟩ := hrel
    have HK := Lib.hid hall
    clear hall
    by_cases hlt : k < n
    · have hlx : k < xs.length := by rw [HL.out]; exact hlt
      obtain ⟨b, o, rfl, hc⟩ := HA.out.open hlx
      obtain ⟨c0, c1, c2, c3⟩ := hc k hlx
      by_cases hz : xs[k].k = 0
      · have HV := Lib.hid (vs_kind hlx hz)
        have b0 : (xs[k].k == 0) = true := beq_iff_eq.2 hz
        generalize xs[k] = p at c0 c1 c2 c3 b0
        clear hc hz HK
        go_wp2_with fail
        go_ret
        exact ⟨ret_bool HV.out.symm, Below.refl _ _⟩
      · have HN : Hid (∀ j (h : j < xs.length), j < k + 1 → xs[j].k ≠ 0) := by
          intro j h hj
          by_cases e : j = k
          · subst e; exact hz
          · exact HK.out j h (by omega)
        have b0 : (xs[k].k == 0) = false := beq_eq_false_iff_ne.2 hz
        generalize xs[k] = p at c0 c1 c2 c3 b0
        clear hc hz
        go_wp2_with fail
        go_roundw
        case rel => exact ⟨k + 1, by omega, by go_num, by first | rfl | trivial, HN.out⟩
        case measure => simp [intOf]; omega
    · obtain rfl : n = k := by omega
      have HV : Hid (vs (prs xs) = vw (prs xs)) := vs_rest fun j h => HK.out j h (by rw [← HL.out]; exact h)
      go_wp2_with fail
      refine (HW.out _ HA.out).mono ?_; rintro e w1 ⟨rfl, hb1⟩
      go_wp2_with fail
      go_ret
      exact ⟨ret_bool HV.out.symm, hb1⟩
theorem rvs_allZ (a : Option Addr) (c : Nat) (xs : List P) (hf : Fitz xs) (w : World) (hA : Prs w a xs) :
    Calls Try.prog 21 #[.slice a xs.length c] w fun e w' => e = .returned (.bool (vs (prs xs))) ∧ Below w.heap.size w w' :=
  rvs_anyZ a c xs hf.len hA (Lib.hid fun w h => rvw_anyZ a c xs hf w h)
set_option maxHeartbeats 2000000 in
set_option maxRecDepth 100000 in
theorem rget_anyZ (a : Option Addr) (c : Nat) (xs : List P) (q : ByteArray) (hx : xs.length ≤ 2932031007402) (w : World) (hA : Prs w a xs) :
    Calls Try.prog 22 #[.slice a xs.length c, .string q] w fun e w' => e = .returned (getP xs q).v ∧ Below w.heap.size w w' := by
  have HA := Lib.hid hA
  have HW := Lib.hid (fun x y z => below_box w (.cells #[.int .i64 x, .int .i64 y, .string z] 30))
  clear hA
  obtain ⟨n, hn⟩ : ∃ n, xs.length = n := ⟨_, rfl⟩
  have HL := Lib.hid hn
  rw [hn] at hx ⊢
  clear hn
  go_enter Try.func22, Try.ntmps22
  go_wp2
  go_loopw [5] (fun s5 wr => ∃ k : Nat, k ≤ n ∧ s5 = .int .i64 k ∧ wr = w.alloc (.cells #[.int .i64 0, .int .i64 0, .string ⟨#[]⟩] 30) ∧ Hid (∀ j (h : j < xs.length), j < k → xs[j].key.data.toList ≠ q.data.toList)) (fun s5 _ => n - (intOf s5).toNat)
  case atStart => exact ⟨0, Nat.zero_le _, rfl, rfl, fun j _ h => absurd h (Nat.not_lt_zero _)⟩
  case round =>
    obtain ⟨k, hk, rfl, rfl, HK⟩ := hrel
    by_cases hlt : k < n
    · have hlx : k < xs.length := by rw [HL.out]; exact hlt
      obtain ⟨b, o, rfl, hc⟩ := (HA.out.below (HW.out 0 0 ⟨#[]⟩)).open hlx
      obtain ⟨c0, c1, c2, c3⟩ := hc k hlx
      by_cases hok : xs[k].key.data.toList = q.data.toList
      · have HV := Lib.hid (getP_hit hlx (fun j h hj => HK.out j h hj) hok)
        have bq : (xs[k].key.toList == q.toList) = true := by rw [K.eql_eq]; exact decide_eq_true hok
        generalize xs[k] = p at c0 c1 c2 c3 bq HV
        clear hc hok
        go_wp2_with fail
        refine bodyPost_ret (v := p.v) (by simp [results, Try.results22, go_sem, P.v]) rfl ⟨?_, HW.out _ _ _⟩
        rw [HV.out]
      · have HN : Hid (∀ j (h : j < xs.length), j < k + 1 → xs[j].key.data.toList ≠ q.data.toList) := by
          intro j h hj
          by_cases e : j = k
          · subst e; exact hok
          · exact HK.out j h (by omega)
        have bq : (xs[k].key.toList == q.toList) = false := by rw [K.eql_eq]; exact decide_eq_false hok
        generalize xs[k] = p at c0 bq
        clear hc hok c1 c2 c3
        go_wp2_with fail
        go_roundw
        case rel => exact ⟨k + 1, by omega, by go_num, by first | rfl | trivial, HN⟩
        case measure => simp [intOf]; omega
    · obtain rfl : n = k := by omega
      have HV : Hid (getP xs q = ⟨q, 0, 0, ⟨#[]⟩⟩) := getP_miss fun j h => HK.out j h (by rw [← HL.out]; exact h)
      go_wp2_with fail
      refine bodyPost_ret (v := .agg #[.int .i64 0, .int .i64 0, .string ⟨#[]⟩]) (by simp [results, Try.results22, go_sem]) rfl ⟨?_, HW.out _ _ _⟩
      rw [HV.out]; rfl
set_option maxHeartbeats 2000000 in
set_option maxRecDepth 100000 in
theorem rsame_anyZ (a b : Option Addr) (c d : Nat) (xs ys : List P) (hx : xs.length ≤ 2932031007402) (w : World) (hA : Prs w a xs) (hB : Prs w b ys) :
    Calls Try.prog 15 #[.slice a xs.length c, .slice b ys.length d] w fun e w' => e = .returned (.bool (same xs ys)) ∧ Below w.heap.size w w' := by
  by_cases hnm : xs.length = ys.length
  · have HN := Lib.hid hnm
    rw [← hnm]
    have HA := Lib.hid hA
    have HB := Lib.hid hB
    clear hA hB hnm
    obtain ⟨n, hn⟩ : ∃ n, xs.length = n := ⟨_, rfl⟩
    have HL := Lib.hid hn
    rw [hn] at hx ⊢
    clear hn
    go_enter Try.func15, Try.ntmps15
    go_wp2
    go_loopw [5] (fun s5 wr => ∃ k : Nat, k ≤ n ∧ s5 = .int .i64 k ∧ Below w.heap.size w wr ∧ Hid (∀ j (h1 : j < xs.length) (h2 : j < ys.length), j < k → eqP xs[j] ys[j] = true)) (fun s5 _ => n - (intOf s5).toNat)
    case atStart => exact ⟨0, Nat.zero_le _, rfl, Below.refl _ _, fun j _ _ h => absurd h (Nat.not_lt_zero _)⟩
    case round =>
      obtain ⟨k, hk, rfl, hb, HK⟩ := hrel
      by_cases hlt : k < n
      · have hlx : k < xs.length := by rw [HL.out]; exact hlt
        have hly : k < ys.length := by rw [← HN.out]; exact hlx
        obtain ⟨b1, o1, rfl, hc⟩ := (HA.out.below hb).open hlx
        obtain ⟨b2, o2, rfl, hd⟩ := (HB.out.below hb).open hly
        obtain ⟨c0, c1, c2, c3⟩ := (hc k hlx).grown
        obtain ⟨d0, d1, d2, d3⟩ := (hd k hly).grown
        have he := run_neq_pair xs[k] ys[k]
        cases hq : eqP xs[k] ys[k]
        · have HV := Lib.hid (same_elem hlx hly hq)
          rw [hq] at he
          generalize xs[k] = p at c0 c1 c2 c3 he
          generalize ys[k] = q at d0 d1 d2 d3 he
          clear hq hc hd
          go_wp2_with fail
          refine wp_region_quiet_below (by kernel_rfl) (by kernel_rfl) ?_
          repeat (go_big_quiet_step (fail))
          refine wpQuiet_nil ?_
          intro w4 hw'
          have hb4 : Below wr.heap.size wr w4 := by
            obtain ⟨⟨dq, osq⟩, hw''⟩ := hw'
            rw [hw'']
            exact below_regrown _ dq osq
          clear hw'
          go_wp2_with fail
          go_ret
          exact ⟨ret_bool HV.out.symm, below_2 hb hb4⟩
        · have HK2 : Hid (∀ j (h1 : j < xs.length) (h2 : j < ys.length), j < k + 1 → eqP xs[j] ys[j] = true) := by
            intro j h1 h2 hj
            by_cases e : j = k
            · subst e; exact hq
            · exact HK.out j h1 h2 (by omega)
          rw [hq] at he
          generalize xs[k] = p at c0 c1 c2 c3 he
          generalize ys[k] = q at d0 d1 d2 d3 he
          clear hq hc hd
          go_wp2_with fail
          refine wp_region_quiet_below (by kernel_rfl) (by kernel_rfl) ?_
          repeat (go_big_quiet_step (fail))
          refine wpQuiet_nil ?_
          intro w4 hw'
          have hb4 : Below wr.heap.size wr w4 := by
            obtain ⟨⟨dq, osq⟩, hw''⟩ := hw'
            rw [hw'']
            exact below_regrown _ dq osq
          clear hw'
          go_wp2_with fail
          go_roundw
          case rel => exact ⟨k + 1, by omega, by go_num, below_2 hb hb4, HK2⟩
          case measure => simp [intOf]; omega
      · obtain rfl : n = k := by omega
        have HV : Hid (same xs ys = true) := same_all HN.out fun j h1 h2 => HK.out j h1 h2 (by rw [← HL.out]; exact h1)
        go_wp2_with fail
        go_ret
        exact ⟨ret_bool HV.out.symm, hb⟩
  · have HV := Lib.hid (same_len hnm)
    have bn : ((xs.length : Int) != (ys.length : Int)) = true := bne_iff_ne.2 (by omega)
    clear hA hB hnm
    go_enter Try.func15, Try.ntmps15
    go_wp2
    go_ret
    exact ⟨ret_bool HV.out.symm, Below.refl _ _⟩
theorem filter_lek (f : P → Bool) (xs : List P) (k : Nat) : ((xs.take k).filter f).length ≤ k := Nat.le_trans (List.length_filter_le _ _) (by rw [List.length_take]; omega)
set_option maxHeartbeats 4000000 in
set_option maxRecDepth 100000 in
theorem rslice_anyZ (a : Option Addr) (c : Nat) (xs : List P) (f t : ByteArray) (hx : xs.length ≤ 2932031007402) (hf : f.size ≤ 9223372036854775807) (ht : t.size ≤ 9223372036854775807) (w : World) (hA : Prs w a xs) :
    Calls Try.prog 24 #[.slice a xs.length c, .agg #[.string f, .string t]] w fun e w' => GivesL e w' (sliP f t xs) ∧ Below w.heap.size w w' := by
  have hbx := below_box w (.cells #[.string f, .string t] 35)
  have HBox := Lib.hid hbx
  have HR := Lib.hid (K.Has.box w f t)
  have HA := Lib.hid (hA.below hbx)
  have HC := Lib.hid (fun k => K.rcontains_any f t k hf ht)
  clear hA hbx
  obtain ⟨n, hn⟩ : ∃ n, xs.length = n := ⟨_, rfl⟩
  have HL := Lib.hid hn
  rw [hn] at hx ⊢
  clear hn
  go_enter Try.func24, Try.ntmps24
  go_wp2
  go_loopw [5, 6] (fun vo vi wr => ∃ k : Nat, k ≤ n ∧ vi = .int .i64 k ∧ Hid (wr.ownsRow (w.heap.size + 1) 33 4 vo ((xs.take k).filter (inR f t)).length (pc ((xs.take k).filter (inR f t)))) ∧ Below (w.heap.size + 1) (w.alloc (.cells #[.string f, .string t] 35)) wr) (fun _ vi _ => n - (intOf vi).toNat)
  case atStart => exact ⟨0, Nat.zero_le _, rfl, World.ownsRow_nil _ _ _ _, Below.refl _ _⟩
  case round =>
    obtain ⟨k, hk, rfl, HO, hb⟩ := hrel
    have hzr := hb.size
    simp at hzr
    by_cases hlt : k < n
    · have hlx : k < xs.length := by rw [HL.out]; exact hlt
      have hbb : Below (w.alloc (.cells #[.string f, .string t] 35)).heap.size (w.alloc (.cells #[.string f, .string t] 35)) wr := by simpa using hb
      obtain ⟨b1, o1, rfl, hc⟩ := (HA.out.below hbb).open hlx
      obtain ⟨c0, c1, c2, c3⟩ := (hc k hlx).grown
      obtain ⟨g0, g1⟩ := HR.out.below hb (Nat.lt_succ_self _)
      have r0 := fun d os => cell_regrown g0 d os
      have r1 := fun d os => cell_regrown g1 d os
      have hl := filter_lek (inR f t) xs k
      obtain ⟨n1, n2⟩ := filter_next (f := inR f t) hlx
      have hC := HC.out xs[k].key
      have hAt := Lib.hid (hc k hlx)
      clear g0 g1 hbb
      cases hq : inR f t xs[k]
      · have HN := Lib.hid (n2 hq)
        rw [show K.cont f.data.toList t.data.toList xs[k].key.data.toList = false from hq] at hC
        have HCC := Lib.hid (grownW (W := wr) hC)
        generalize xs[k] = p at c0 c1 c2 c3 HCC hAt
        clear n1 n2 hc hq hC
        go_wp2_with fail
        refine wp_region_quiet_below (by kernel_rfl) (by kernel_rfl) ?_
        repeat (go_big_quiet_step (with_reducible exact HCC.out _ _))
        refine wpQuiet_nil ?_
        intro w4 hw'
        have hb4 : Below wr.heap.size wr w4 := by
          obtain ⟨⟨dq, osq⟩, hw''⟩ := hw'
          rw [hw'']
          exact below_regrown _ dq osq
        clear hw' c0 c1 c2 c3 r0 r1
        have HB4 := Lib.hid (hb.trans (hb4.mono (by omega)))
        have HO4 := Lib.hid (own_belowO HO.out hb4)
        go_wp2_with fail
        go_roundw
        case rel => exact ⟨k + 1, by omega, by go_num, (by unfold Hid; rw [HN.out]; exact HO4.out), HB4.out⟩
        case measure => simp [intOf]; omega
      · have HN := Lib.hid (n1 hq)
        rw [show K.cont f.data.toList t.data.toList xs[k].key.data.toList = true from hq] at hC
        have HCC := Lib.hid (grownW (W := wr) hC)
        generalize xs[k] = p at c0 c1 c2 c3 HCC HN hAt
        clear n1 n2 hc hq hC
        go_wp2_with fail
        refine wp_region_quiet_below (by kernel_rfl) (by kernel_rfl) ?_
        repeat (go_big_quiet_step (with_reducible exact HCC.out _ _))
        refine wpQuiet_nil ?_
        intro w4 hw'
        have hb4 : Below wr.heap.size wr w4 := by
          obtain ⟨⟨dq, osq⟩, hw''⟩ := hw'
          rw [hw'']
          exact below_regrown _ dq osq
        clear hw' c0 c1 c2 c3 r0 r1
        have hB4 := hb.trans (hb4.mono (by omega))
        have HO4 := Lib.hid (own_belowO HO.out hb4)
        have hz4 := hB4.size
        simp at hz4
        obtain ⟨c0, c1, c2, c3⟩ := hAt.out.below hb4 hAt.out.lt
        go_wp2_with (at_builtin; refine wpList_append_pair rfl _ _ rfl (w.heap.size + 1) u5 ((xs.take k).filter (inR f t)) rfl p HO4.out rfl (by omega) (by omega) ?_; intro v1 w5 hown1 hgrow1; have hb2 := below_app hB4 (by omega) hgrow1 (own_ge HO4.out))
        go_roundw
        case rel => exact ⟨k + 1, by omega, by go_num, (by unfold Hid; rw [HN.out]; exact hown1), hb2⟩
        case measure => simp [intOf]; omega
    · obtain rfl : n = k := by omega
      have hown := HO.out
      rw [List.take_of_length_le (by rw [HL.out]; exact Nat.le_refl _)] at hown
      obtain ⟨a1, c1, rfl, hS1⟩ := own_sl hown
      have HS1 := Lib.hid hS1
      clear hown hS1 HO
      go_wp2_with fail
      go_ret
      exact ⟨⟨a1, c1, rfl, HS1.out⟩, below_2 HBox.out (by simpa using hb)⟩

set_option maxHeartbeats 8000000 in
set_option maxRecDepth 100000 in
theorem lists_walkZ (O : Own) (a b : Option Addr) (c d : Nat) (xs ys : List P) (f t : ByteArray) (hf : Fitz xs) (hff : f.size ≤ 9223372036854775807) (htt : t.size ≤ 9223372036854775807) (w : World) (hA : Sl w a c xs) (hB : Sl w b d ys) :
    Calls Try.prog 5 #[.slice a xs.length c, .slice b ys.length d, .agg #[.string f, .string t]] w fun e w' => e = .returned (.bool true) ∧ Below w.heap.size w w' := by
  have hbx := below_box w (.cells #[.string f, .string t] 35)
  have hx := hf.len
  have hsl := sliP_len f t xs
  have HX0 : Hid (Held w w.heap.size a b c d xs ys f t (w.alloc (.cells #[.string f, .string t] 35))) := ⟨(K.Has.box w f t).1, (K.Has.box w f t).2, hA.below hbx, hB.below hbx, hbx⟩
  have HX := Lib.hid (HX0.out.step (below_drew _))
  have PE := Lib.hid (examples_any O)
  have P1 := Lib.hid (fun w (h : Sl w a c xs) => oval_any a c xs hf w h.prs)
  have P2 := Lib.hid (fun w (h : Sl w a c xs) => rvs_allZ a c xs hf w h.prs)
  have P3 := Lib.hid (fun w (h : Sl w a c xs) => oget_any a c xs f hf w h.prs)
  have P4 := Lib.hid (fun w (h : Sl w a c xs) => rget_anyZ a c xs f hf.len w h.prs)
  have P5 := Lib.hid (fun w (h : Sl w a c xs) => oslice_any a c xs f t hf hff htt w h.prs)
  have P6 := Lib.hid (fun w (h : Sl w a c xs) => rslice_anyZ a c xs f t (by omega) hff htt w h.prs)
  have P7 := Lib.hid (fun (a1 a2 : Option Addr) (c1 c2 : Nat) (w : World) (h1 : Sl w a1 c1 (sliP f t xs)) (h2 : Sl w a2 c2 (sliP f t xs)) => rsame_anyZ a1 a2 c1 c2 (sliP f t xs) (sliP f t xs) (by omega) w h1.prs h2.prs)
  have P8 := Lib.hid (fun w (h1 : Sl w a c xs) (h2 : Sl w b d ys) => osame_any a b c d xs ys hf.len w h1.prs h2.prs)
  have P9 := Lib.hid (fun w (h1 : Sl w a c xs) (h2 : Sl w b d ys) => rsame_anyZ a b c d xs ys hf.len w h1.prs h2.prs)
  have P10 := Lib.hid (fun w (h1 : Sl w a c xs) => osame_any a a c c xs xs hf.len w h1.prs h1.prs)
  rw [same_self] at P7 P10
  have he := run_eql_val (getP xs f) (getP xs f)
  rw [eqV_self] at he
  simp only [P.v] at P3 P4
  generalize getP xs f = g at P3 P4 he
  generalize vs (prs xs) = V at P1 P2
  generalize same xs ys = SM at P8 P9
  generalize sliP f t xs = zs at P5 P6 P7
  generalize xs.length = n at P1 P2 P3 P4 P5 P6 P8 P9 P10 ⊢
  generalize ys.length = m at P8 P9 ⊢
  obtain ⟨q0, q1, -, -, -⟩ := HX.out
  clear hA hB hf hff htt hbx hx hsl O HX0
  go_enter Try.func5, Try.ntmps5
  go_wp2_with fail
  go_region_held3 (fun w' => w'.cell? ⟨w.heap.size, 0, none⟩ = some (.string f) ∧ w'.cell? ⟨w.heap.size, 1, none⟩ = some (.string t)) (first | go_keep | (refine ⟨?_, ?_⟩ <;> go_simp))
    (first
      | (go_at_call 12; refine (PE.out _).mono ?_; rintro e w11 ⟨rfl, hb11⟩; have HX11 := Lib.hid (HX10.out.step hb11); obtain ⟨g20, g21, -, -, -⟩ := HX11.out)
      | (go_at_call 14; refine (P10.out _ HX9.out.one).mono ?_; rintro e w10 ⟨rfl, hb10⟩; have HX10 := Lib.hid (HX9.out.step hb10); obtain ⟨g18, g19, -, -, -⟩ := HX10.out)
      | (go_at_call 15; refine (P9.out _ HX8.out.one HX8.out.two).mono ?_; rintro e w9 ⟨rfl, hb9⟩; have HX9 := Lib.hid (HX8.out.step hb9); obtain ⟨g16, g17, -, -, -⟩ := HX9.out)
      | (go_at_call 14; refine (P8.out _ HX7.out.one HX7.out.two).mono ?_; rintro e w8 ⟨rfl, hb8⟩; have HX8 := Lib.hid (HX7.out.step hb8); obtain ⟨g14, g15, -, -, -⟩ := HX8.out)
      | (go_at_call 15; refine (P7.out a1 a2 c1 c2 _ HS3.out HS2.out).mono ?_; rintro e w7 ⟨rfl, hb7⟩; have HX7 := Lib.hid (HX6.out.step hb7); obtain ⟨g12, g13, -, -, -⟩ := HX7.out)
      | (go_at_call 24; refine (P6.out _ HX5.out.one).mono ?_; rintro e w6 ⟨⟨a2, c2, rfl, hS2⟩, hb6⟩; have HX6 := Lib.hid (HX5.out.step hb6); have HS2 := Lib.hid hS2; have HS3 := Lib.hid (HS1.out.below hb6); obtain ⟨g10, g11, -, -, -⟩ := HX6.out)
      | (go_at_call 23; refine (P5.out _ HX4.out.one).mono ?_; rintro e w5 ⟨⟨a1, c1, rfl, hS1⟩, hb5⟩; have HX5 := Lib.hid (HX4.out.step hb5); have HS1 := Lib.hid hS1; obtain ⟨g8, g9, -, -, -⟩ := HX5.out)
      | (go_at_call 22; refine (P4.out _ HX3.out.one).mono ?_; rintro e w4 ⟨rfl, hb4⟩; have HX4 := Lib.hid (HX3.out.step hb4); obtain ⟨g6, g7, -, -, -⟩ := HX4.out)
      | (go_at_call 16; refine (P3.out _ HX2.out.one).mono ?_; rintro e w3 ⟨rfl, hb3⟩; have HX3 := Lib.hid (HX2.out.step hb3); obtain ⟨g4, g5, -, -, -⟩ := HX3.out)
      | (go_at_call 21; refine (P2.out _ HX1.out.one).mono ?_; rintro e w2 ⟨rfl, hb2⟩; have HX2 := Lib.hid (HX1.out.step hb2); obtain ⟨g2, g3, -, -, -⟩ := HX2.out)
      | (go_at_call 11; refine (P1.out _ HX.out.one).mono ?_; rintro e w1 ⟨rfl, hb1⟩; have HX1 := Lib.hid (HX.out.step hb1); obtain ⟨g0, g1, -, -, -⟩ := HX1.out))
  go_wp2_with fail
  go_ret
  exact ⟨rfl, HX11.out.below⟩
theorem mrg_self : ∀ xs : List P, mrg chU xs xs = xs
  | [] => mrg_00 chU
  | x :: xs => by rw [mrg_eq chU xs xs (lt_irr _) (lt_irr _), mrg_self xs]; rfl
theorem mrg_of_uni {xs ys zs : List P} (h1 : vs (prs xs) = true) (h2 : vs (prs ys) = true) (hu : uniP xs ys = (zs, 0)) : mrg chU xs ys = zs := by
  cases hfl : fl xs ys
  · obtain ⟨g1, g2⟩ := fl_no h1 h2 hfl
    rw [g2]
    rw [g1] at hu
    exact (Prod.mk.inj hu).1
  · rw [fl_yes h1 h2 hfl] at hu
    exact absurd (Prod.mk.inj hu).2 (by decide)
set_option maxHeartbeats 4000000 in
set_option maxRecDepth 100000 in
theorem splits_walkZ (O : Own) (a : Option Addr) (c : Nat) (xs : List P) (f t : ByteArray) (hf : Fitz xs) (hff : f.size ≤ 9223372036854775807) (htt : t.size ≤ 9223372036854775807) (w : World) (hA : Sl w a c xs) :
    Calls Try.prog 9 #[.slice a xs.length c, .agg #[.string f, .string t]] w fun e w' => e = .returned (.bool true) ∧ Below w.heap.size w w' := by
  have hbx := below_box w (.cells #[.string f, .string t] 35)
  have HBox := Lib.hid hbx
  have HR := Lib.hid (K.Has.box w f t)
  have HA := Lib.hid (hA.below hbx)
  have PE := Lib.hid (examples_any O)
  have p1 := fun w (h : Sl w a c xs) => oval_any a c xs hf w h.prs
  clear hbx hA
  cases hv : vs (prs xs)
  · rw [hv] at p1
    have P1 := Lib.hid p1
    generalize xs.length = n at P1 ⊢
    clear hf hff htt O p1 hv
    go_enter Try.func9, Try.ntmps9
    go_wp2_with fail
    refine (P1.out _ HA.out).mono ?_; rintro e w1 ⟨rfl, hb1⟩
    go_wp2_with fail
    refine (PE.out _).mono ?_; rintro e w2 ⟨rfl, hb2⟩
    go_wp2_with fail
    go_ret
    exact ⟨rfl, below_2 (below_2 HBox.out hb1) hb2⟩
  · rw [hv] at p1
    obtain ⟨u1, u2⟩ := uni_parts hv f t
    have p2 := fun w (h : Sl w a c xs) => oslice_any a c xs f t hf hff htt w h.prs
    have p3 := fun a1 a2 c1 c2 w h1 h2 => ounion_any a1 a2 c1 c2 (xs.filter (inR f t)) (xs.filter (outR f t)) (fitz_filter hf _) (fitz_filter hf _) (fun g1 g2 => by rw [mrg_of_uni g1 g2 u1]; exact hf.len) w h1 h2
    have p4 := fun a1 a2 c1 c2 w h1 h2 => ounion_any a1 a2 c1 c2 (xs.filter (outR f t)) (xs.filter (inR f t)) (fitz_filter hf _) (fitz_filter hf _) (fun g1 g2 => by rw [mrg_of_uni g1 g2 u2]; exact hf.len) w h1 h2
    rw [u1] at p3
    rw [u2] at p4
    have P5 := Lib.hid (fun (a1 : Option Addr) (c1 : Nat) (w : World) (h1 : Sl w a1 c1 xs) (h2 : Sl w a c xs) => rsame_anyZ a1 a c1 c xs xs hf.len w h1.prs h2.prs)
    rw [same_self] at P5
    have p6 := fun w (h : Sl w a c xs) => ounion_any a a c c xs xs hf hf (fun _ _ => by rw [mrg_self]; exact hf.len) w h h
    rw [uni_twice hv] at p6
    have P7 := Lib.hid (fun k => K.contains_any f t k hff htt)
    have HSP : Hid (sliP f t xs = xs.filter (inR f t)) := rfl
    rw [HSP.out] at p2
    have P1 := Lib.hid p1
    have P2 := Lib.hid p2
    have P3 := Lib.hid p3
    have P4 := Lib.hid p4
    have P6 := Lib.hid p6
    have HFL := Lib.hid (fun k => filter_lek (outR f t) xs k)
    have HFI := Lib.hid (fun k => filter_lek (inR f t) xs k)
    have hx := hf.len
    clear hf hff htt O p1 p2 p3 p4 p6 hv u1 u2 HSP
    go_enter Try.func9, Try.ntmps9
    go_wp2_with fail
    refine (P1.out _ HA.out).mono ?_; rintro e w1 ⟨rfl, hb1⟩
    have HA1 := Lib.hid (HA.out.below hb1)
    have hr1 := HR.out.below (show Below (w.heap.size + 1) _ w1 by simpa using hb1) (Nat.lt_succ_self _)
    have HR1 := Lib.hid hr1
    have H1 := Lib.hid (below_2 HBox.out hb1)
    have hs1 : w.heap.size < w1.heap.size := by have := hb1.size; simp at this; omega
    obtain ⟨r0, r1⟩ := hr1
    clear hb1
    go_wp2_with fail
    refine (P2.out _ HA1.out).mono ?_; rintro e w2 ⟨⟨a1, c1, rfl, hS1⟩, hb2⟩
    have HA2 := Lib.hid (HA1.out.below hb2)
    have HR2 := Lib.hid (HR1.out.below hb2 hs1)
    have H2 := Lib.hid (below_2 H1.out hb2)
    have HS1 := Lib.hid hS1
    have hs2 : w.heap.size < w2.heap.size := by have := hb2.size; omega
    clear hb2 hS1 HA1 HR1 H1 r0 r1
    go_wp2_with fail
    go_loopw [6, 7, 8] (fun vo vn vi wr => ∃ k : Nat, k ≤ xs.length ∧ vi = .int .i64 k ∧ vn = .int .i64 ((xs.take k).filter (inR f t)).length ∧ Hid (wr.ownsRow w2.heap.size 33 4 vo ((xs.take k).filter (outR f t)).length (pc ((xs.take k).filter (outR f t)))) ∧ Below w2.heap.size w2 wr) (fun _ _ vi _ => xs.length - (intOf vi).toNat)
    case atStart => exact ⟨0, Nat.zero_le _, rfl, rfl, World.ownsRow_nil _ _ _ _, Below.refl _ _⟩
    case round =>
      obtain ⟨k, hk, rfl, rfl, HO, hb⟩ := hrel
      have hzr := hb.size
      by_cases hlx : k < xs.length
      · obtain ⟨b1, o1, rfl, hc⟩ := (HA2.out.below hb).prs.open hlx
        obtain ⟨c0, c1', c2', c3⟩ := (hc k hlx).grown
        obtain ⟨g0, g1⟩ := HR2.out.below hb hs2
        have r0 := fun d os => cell_regrown g0 d os
        have r1 := fun d os => cell_regrown g1 d os
        have hl := HFL.out k
        have hl2 := HFI.out k
        obtain ⟨n1, n2⟩ := filter_next (f := outR f t) hlx
        obtain ⟨m1, m2⟩ := filter_next (f := inR f t) hlx
        have hC := P7.out xs[k].key
        have hAt := Lib.hid (hc k hlx)
        clear g0 g1
        cases hq : inR f t xs[k]
        · have HN := Lib.hid (n1 (by unfold outR; rw [hq]; rfl))
          have HM : Hid (((xs.take (k + 1)).filter (inR f t)).length = ((xs.take k).filter (inR f t)).length) := by show _ = _; rw [m2 hq]
          rw [show K.cont f.data.toList t.data.toList xs[k].key.data.toList = false from hq] at hC
          have HCC := Lib.hid (grownW (W := wr) hC)
          generalize xs[k] = p at c0 c1' c2' c3 HCC HN hAt
          generalize ((xs.take k).filter (inR f t)).length = cnt at HM hl2 ⊢
          clear n1 n2 m1 m2 hc hq hC
          go_wp2_with fail
          refine wp_region_quiet_below (by kernel_rfl) (by kernel_rfl) ?_
          repeat (go_big_quiet_step (with_reducible exact HCC.out _ _))
          refine wpQuiet_nil ?_
          intro w4 hw'
          have hb4 : Below wr.heap.size wr w4 := by
            obtain ⟨⟨dq, osq⟩, hw''⟩ := hw'
            rw [hw'']
            exact below_regrown _ dq osq
          clear hw' c0 c1' c2' c3 r0 r1
          have hB4 := below_2 hb hb4
          have HO4 := Lib.hid (own_belowO HO.out hb4)
          have hz4 := hB4.size
          obtain ⟨c0, c1', c2', c3⟩ := hAt.out.below hb4 hAt.out.lt
          go_wp2_with (at_builtin; refine wpList_append_pair rfl _ _ rfl w2.heap.size u6 ((xs.take k).filter (outR f t)) rfl p HO4.out rfl (by omega) (by omega) ?_; intro v1 w5 hown1 hgrow1; have hb2 := below_app hB4 (by omega) hgrow1 (own_ge HO4.out))
          go_roundw
          case rel => exact ⟨k + 1, by omega, by go_num, by rw [HM.out], (by unfold Hid; rw [HN.out]; exact hown1), hb2⟩
          case measure => simp [intOf]; omega
        · have HN := Lib.hid (n2 (by unfold outR; rw [hq]; rfl))
          have hm := m1 hq
          have HM : Hid (((xs.take (k + 1)).filter (inR f t)).length = ((xs.take k).filter (inR f t)).length + 1) := by
            show _ = _
            rw [hm, List.length_append]; rfl
          rw [show K.cont f.data.toList t.data.toList xs[k].key.data.toList = true from hq] at hC
          have HCC := Lib.hid (grownW (W := wr) hC)
          generalize xs[k] = p at c0 c1' c2' c3 HCC
          generalize ((xs.take k).filter (inR f t)).length = cnt at HM hl2 ⊢
          clear n1 n2 m1 m2 hc hq hC hm hAt
          go_wp2_with fail
          refine wp_region_quiet_below (by kernel_rfl) (by kernel_rfl) ?_
          repeat (go_big_quiet_step (with_reducible exact HCC.out _ _))
          refine wpQuiet_nil ?_
          intro w4 hw'
          have hb4 : Below wr.heap.size wr w4 := by
            obtain ⟨⟨dq, osq⟩, hw''⟩ := hw'
            rw [hw'']
            exact below_regrown _ dq osq
          clear hw' c0 c1' c2' c3 r0 r1
          have HB4 := Lib.hid (below_2 hb hb4)
          have HO4 := Lib.hid (own_belowO HO.out hb4)
          go_wp2_with fail
          go_roundw
          case rel => exact ⟨k + 1, by omega, by go_num, by rw [HM.out]; go_num, (by unfold Hid; rw [HN.out]; exact HO4.out), HB4.out⟩
          case measure => simp [intOf]; omega
      · obtain rfl : k = xs.length := by omega
        have hown := HO.out
        rw [List.take_length] at hown ⊢
        obtain ⟨a2, c2, rfl, hS2⟩ := own_sl hown
        have HS2 := Lib.hid hS2
        have HS1r := Lib.hid (HS1.out.below hb)
        have HAr := Lib.hid (HA2.out.below hb)
        have Hr := Lib.hid (below_2 H2.out hb)
        clear hown hS2 HO hb HS1 HA2 H2 HFL HFI P7 HR2
        generalize xs.filter (inR f t) = is at P3 P4 HS1r ⊢
        generalize xs.filter (outR f t) = os at P3 P4 HS2 ⊢
        go_wp2_with fail
        refine (P3.out _ _ _ _ _ HS1r.out HS2.out).mono ?_; rintro e w3 ⟨⟨a3, c3, rfl, hS3⟩, hb3⟩
        have HS3 := Lib.hid hS3
        have HS1 := Lib.hid (HS1r.out.below hb3)
        have HS2 := Lib.hid (HS2.out.below hb3)
        have HA3 := Lib.hid (HAr.out.below hb3)
        have H3 := Lib.hid (below_2 Hr.out hb3)
        clear hS3 hb3 HS1r HAr Hr
        go_wp2_with fail
        refine (P4.out _ _ _ _ _ HS2.out HS1.out).mono ?_; rintro e w4 ⟨⟨a4, c4, rfl, hS4⟩, hb4⟩
        have HS4 := Lib.hid hS4
        have HS3 := Lib.hid (HS3.out.below hb4)
        have HA4 := Lib.hid (HA3.out.below hb4)
        have H4 := Lib.hid (below_2 H3.out hb4)
        clear hS4 hb4 HA3 H3 HS1 HS2
        go_wp2_with fail
        refine (P5.out _ _ _ HS3.out HA4.out).mono ?_; rintro e w5 ⟨rfl, hb5⟩
        have HS4 := Lib.hid (HS4.out.below hb5)
        have HA5 := Lib.hid (HA4.out.below hb5)
        have H5 := Lib.hid (below_2 H4.out hb5)
        clear hb5 HA4 H4 HS3
        go_wp2_with fail
        refine (P5.out _ _ _ HS4.out HA5.out).mono ?_; rintro e w6 ⟨rfl, hb6⟩
        have HA6 := Lib.hid (HA5.out.below hb6)
        have H6 := Lib.hid (below_2 H5.out hb6)
        clear hb6 HA5 H5 HS4
        go_wp2_with fail
        refine (P6.out _ HA6.out).mono ?_; rintro e w7 ⟨⟨a5, c5, rfl, hS5⟩, hb7⟩
        have H7 := Lib.hid (below_2 H6.out hb7)
        clear hS5 hb7 HA6 H6
        by_cases hx0 : 0 < xs.length
        · go_wp2_with fail
          refine (PE.out _).mono ?_; rintro e w8 ⟨rfl, hb8⟩
          go_wp2_with fail
          go_ret
          exact ⟨rfl, below_2 H7.out hb8⟩
        · go_wp2_with fail
          refine (PE.out _).mono ?_; rintro e w8 ⟨rfl, hb8⟩
          go_wp2_with fail
          go_ret
          exact ⟨rfl, below_2 H7.out hb8⟩
end Go.Proofs.Ytieloegadhgipaa.S
