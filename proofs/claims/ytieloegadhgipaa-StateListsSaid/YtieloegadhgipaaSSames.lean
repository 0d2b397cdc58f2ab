/-
  What Same returns, of the reference of layer 6: its contract.
-/
import Derived.Test.YtieloegadhgipaaSGets
namespace Go.Proofs.Ytieloegadhgipaa.S
open Go.RowKit
open Go.Proofs.Ytieloegadhgipaa.V (ret_bool ret_int ret_string below_2 below_box below_box2)

/-- whether two pairs are one, as the program compares them -/
def eqP (p q : P) : Bool := decide (p.pr = q.pr)
theorem eqP_iff {p q : P} : eqP p q = true ↔ p.pr = q.pr := decide_eq_true_iff
def same (xs ys : List P) : Bool := decide (prs xs = prs ys)
theorem same_len {xs ys : List P} (h : ¬ xs.length = ys.length) : same xs ys = false :=
  decide_eq_false fun e => h (by have := congrArg List.length e; rwa [prs_len, prs_len] at this)
theorem same_elem {xs ys : List P} {k : Nat} (h1 : k < xs.length) (h2 : k < ys.length) (h : eqP xs[k] ys[k] = false) : same xs ys = false := by
  refine decide_eq_false fun e => ?_
  have e1 : (prs xs)[k]'(by rw [prs_len]; exact h1) = (prs ys)[k]'(by rw [prs_len]; exact h2) := by simp only [e]
  unfold prs at e1
  rw [List.getElem_map, List.getElem_map] at e1
  rw [eqP_iff.2 e1] at h
  cases h
theorem same_all {xs ys : List P} (h : xs.length = ys.length) (h2 : ∀ j (h1 : j < xs.length) (h2 : j < ys.length), eqP xs[j] ys[j] = true) : same xs ys = true := by
  refine decide_eq_true (List.ext_getElem (by rw [prs_len, prs_len]; exact h) fun j h3 h4 => ?_)
  have h5 : j < xs.length := by rw [← prs_len]; exact h3
  have h6 : j < ys.length := by rw [← prs_len]; exact h4
  have e1 : (prs xs)[j]'h3 = xs[j].pr := List.getElem_map P.pr
  have e2 : (prs ys)[j]'h4 = ys[j].pr := List.getElem_map P.pr
  rw [e1, e2]
  exact eqP_iff.1 (h2 j h5 h6)
theorem eqP_parts (p q : P) : eqP p q = (p.key.toList == q.key.toList && (p.k == q.k && (p.n == q.n && p.s.toList == q.s.toList))) := by
  rw [K.eql_eq, K.eql_eq]
  refine V.bool_iff ?_
  rw [eqP_iff]
  simp only [Bool.and_eq_true, beq_iff_eq, decide_eq_true_eq]
  unfold P.pr
  constructor
  · intro h
    obtain ⟨h1, h2⟩ := Prod.mk.inj h
    cases p; cases q
    simp only [V.Val.mk.injEq] at h2
    exact ⟨h1, h2.1, h2.2.1, h2.2.2⟩
  · rintro ⟨h1, h2, h3, h4⟩
    rw [h1, h2, h3, h4]
theorem run_neq_pair (p q : P) (W : World) : (binOp .neq 33 (.agg #[.string p.key, .int .i64 p.k, .int .i64 p.n, .string p.s]) (.agg #[.string q.key, .int .i64 q.k, .int .i64 q.n, .string q.s])).run Try.prog W = .ok (.bool !eqP p q) W := by
  rw [eqP_parts]
  go_simp
  by_cases h1 : p.key.toList = q.key.toList <;> by_cases h2 : p.k = q.k <;> by_cases h3 : p.n = q.n <;> by_cases h4 : p.s.toList = q.s.toList <;> simp [h1, h2, h3, h4]
set_option maxHeartbeats 2000000 in
set_option maxRecDepth 100000 in
theorem rsame_any (a b : Option Addr) (c d : Nat) (xs ys : List P) (hx : xs.length ≤ 1000000000000) (w : World) (hA : Prs w a xs) (hB : Prs w b ys) :
    Calls Try.prog 15 #[.slice a xs.length c, .slice b ys.length d] w fun e w' => e = .returned (.bool (same xs ys)) ∧ Below w.heap.size w w' := by
  by_cases hnm : xs.length = ys.length
  · have HN := Lib.hid hnm
    rw [← hnm]
    have HA := Lib.hid hA
    have HB := Lib.hid hB
    clear hA hB hnm
    obtain ⟨n, hn⟩ : ∃ n, xs.length = n := ⟨_, rfl⟩
    have HL := Lib.hid hn
    rw [hn] at hx ⊢
    clear hn
    go_enter Try.func15, Try.ntmps15
    go_wp2
    go_loopw [5] (fun s5 wr => ∃ k : Nat, k ≤ n ∧ s5 = .int .i64 k ∧ Below w.heap.size w wr ∧ Hid (∀ j (h1 : j < xs.length) (h2 : j < ys.length), j < k → eqP xs[j] ys[j] = true)) (fun s5 _ => n - (intOf s5).toNat)
    case atStart => exact ⟨0, Nat.zero_le _, rfl, Below.refl _ _, fun j _ _ h => absurd h (Nat.not_lt_zero _)⟩
    case round =>
      obtain ⟨k, hk, rfl, hb, HK⟩ := hrel
      by_cases hlt : k < n
      · have hlx : k < xs.length := by rw [HL.out]; exact hlt
        have hly : k < ys.length := by rw [← HN.out]; exact hlx
        obtain ⟨b1, o1, rfl, hc⟩ := (HA.out.below hb).open hlx
        obtain ⟨b2, o2, rfl, hd⟩ := (HB.out.below hb).open hly
        obtain ⟨c0, c1, c2, c3⟩ := (hc k hlx).grown
        obtain ⟨d0, d1, d2, d3⟩ := (hd k hly).grown
        have he := run_neq_pair xs[k] ys[k]
        cases hq : eqP xs[k] ys[k]
        · have HV := Lib.hid (same_elem hlx hly hq)
          rw [hq] at he
          generalize xs[k] = p at c0 c1 c2 c3 he
          generalize ys[k] = q at d0 d1 d2 d3 he
          clear hq hc hd
          go_wp2_with fail
          refine wp_region_quiet_below (by kernel_rfl) (by kernel_rfl) ?_
          repeat (go_big_quiet_step (fail))
          refine wpQuiet_nil ?_
          intro w4 hw'
          have hb4 : Below wr.heap.size wr w4 := by
            obtain ⟨⟨dq, osq⟩, hw''⟩ := hw'
            rw [hw'']
            exact below_regrown _ dq osq
          clear hw'
          go_wp2_with fail
          go_ret
          exact ⟨ret_bool HV.out.symm, below_2 hb hb4⟩
        · have HK2 : Hid (∀ j (h1 : j < xs.length) (h2 : j < ys.length), j < k + 1 → eqP xs[j] ys[j] = true) := by
            intro j h1 h2 hj
            by_cases e : j = k
            · subst e; exact hq
            · exact HK.out j h1 h2 (by omega)
          rw [hq] at he
          generalize xs[k] = p at c0 c1 c2 c3 he
          generalize ys[k] = q at d0 d1 d2 d3 he
          clear hq hc hd
          go_wp2_with fail
          refine wp_region_quiet_below (by kernel_rfl) (by kernel_rfl) ?_
          repeat (go_big_quiet_step (fail))
          refine wpQuiet_nil ?_
          intro w4 hw'
          have hb4 : Below wr.heap.size wr w4 := by
            obtain ⟨⟨dq, osq⟩, hw''⟩ := hw'
            rw [hw'']
            exact below_regrown _ dq osq
          clear hw'
          go_wp2_with fail
          go_roundw
          case rel => exact ⟨k + 1, by omega, by go_num, below_2 hb hb4, HK2⟩
          case measure => simp [intOf]; omega
      · obtain rfl : n = k := by omega
        have HV : Hid (same xs ys = true) := same_all HN.out fun j h1 h2 => HK.out j h1 h2 (by rw [← HL.out]; exact h1)
        go_wp2_with fail
        go_ret
        exact ⟨ret_bool HV.out.symm, hb⟩
  · have HV := Lib.hid (same_len hnm)
    have bn : ((xs.length : Int) != (ys.length : Int)) = true := bne_iff_ne.2 (by omega)
    clear hA hB hnm
    go_enter Try.func15, Try.ntmps15
    go_wp2
    go_ret
    exact ⟨ret_bool HV.out.symm, Below.refl _ _⟩
end Go.Proofs.Ytieloegadhgipaa.S
