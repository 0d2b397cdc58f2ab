/-
  What Same returns, of the reference of layer 7: its contract.
-/
import Derived.Test.YtaimmcibdepejaaDoorLRefsG
namespace Go.Proofs.YtaimmcibdepejaaDoor.L
open Go.RowKit

/-- whether two pairs are one, as the program compares them -/
def eqT (p q : T) : Bool := decide (p.tok = q.tok)
theorem eqT_iff {p q : T} : eqT p q = true ↔ p.tok = q.tok := decide_eq_true_iff
def same (xs ys : List T) : Bool := decide (toks xs = toks ys)
theorem same_len {xs ys : List T} (h : ¬ xs.length = ys.length) : same xs ys = false :=
  decide_eq_false fun e => h (by have := congrArg List.length e; rwa [toks_len, toks_len] at this)
theorem same_elem {xs ys : List T} {k : Nat} (h1 : k < xs.length) (h2 : k < ys.length) (h : eqT xs[k] ys[k] = false) : same xs ys = false := by
  refine decide_eq_false fun e => ?_
  have e1 : (toks xs)[k]'(by rw [toks_len]; exact h1) = (toks ys)[k]'(by rw [toks_len]; exact h2) := by simp only [e]
  unfold toks at e1
  rw [List.getElem_map, List.getElem_map] at e1
  rw [eqT_iff.2 e1] at h
  cases h
theorem same_all {xs ys : List T} (h : xs.length = ys.length) (h2 : ∀ j (h1 : j < xs.length) (h2 : j < ys.length), eqT xs[j] ys[j] = true) : same xs ys = true := by
  refine decide_eq_true (List.ext_getElem (by rw [toks_len, toks_len]; exact h) fun j h3 h4 => ?_)
  have h5 : j < xs.length := by rw [← toks_len]; exact h3
  have h6 : j < ys.length := by rw [← toks_len]; exact h4
  have e1 : (toks xs)[j]'h3 = xs[j].tok := List.getElem_map T.tok
  have e2 : (toks ys)[j]'h4 = ys[j].tok := List.getElem_map T.tok
  rw [e1, e2]
  exact eqT_iff.1 (h2 j h5 h6)
theorem eqT_parts (p q : T) : eqT p q = (p.k == q.k && (p.t.toList == q.t.toList && (p.n == q.n && p.line == q.line))) := by
  rw [eql_eq]
  refine Bool.eq_iff_iff.2 ?_
  rw [eqT_iff]
  simp only [Bool.and_eq_true, beq_iff_eq, decide_eq_true_eq]
  unfold T.tok
  rw [Tok.mk.injEq]
theorem run_neq_tok (p q : T) (W : World) : (binOp .neq 31 (.agg #[.int .i64 p.k, .string p.t, .int .i64 p.n, .int .i64 p.line]) (.agg #[.int .i64 q.k, .string q.t, .int .i64 q.n, .int .i64 q.line])).run Tryd.prog W = .ok (.bool !eqT p q) W := by
  rw [eqT_parts]
  go_simp
  by_cases h1 : p.k = q.k <;> by_cases h2 : p.t.toList = q.t.toList <;> by_cases h3 : p.n = q.n <;> by_cases h4 : p.line = q.line <;> simp [h1, h2, h3, h4]
set_option maxHeartbeats 2000000 in
set_option maxRecDepth 100000 in
theorem rsame_any (a b : Option Addr) (c d : Nat) (xs ys : List T) (hx : xs.length ≤ 1000000000000) (w : World) (hA : Tks w a xs) (hB : Tks w b ys) :
    Calls Tryd.prog 20 #[.slice a xs.length c, .slice b ys.length d] w fun e w' => e = .returned (.bool (same xs ys)) ∧ Below w.heap.size w w' := by
  by_cases hnm : xs.length = ys.length
  · have HN := Lib.hid hnm
    rw [← hnm]
    have HA := Lib.hid hA
    have HB := Lib.hid hB
    clear hA hB hnm
    obtain ⟨n, hn⟩ : ∃ n, xs.length = n := ⟨_, rfl⟩
    have HL := Lib.hid hn
    rw [hn] at hx ⊢
    clear hn
    go_enter Tryd.func20, Tryd.ntmps20
    go_wp2
    go_loopw [5] (fun s5 wr => ∃ k : Nat, k ≤ n ∧ s5 = .int .i64 k ∧ Below w.heap.size w wr ∧ Hid (∀ j (h1 : j < xs.length) (h2 : j < ys.length), j < k → eqT xs[j] ys[j] = true)) (fun s5 _ => n - (intOf s5).toNat)
    case atStart => exact ⟨0, Nat.zero_le _, rfl, Below.refl _ _, fun j _ _ h => absurd h (Nat.not_lt_zero _)⟩
    case round =>
      obtain ⟨k, hk, rfl, hb, HK⟩ := hrel
      by_cases hlt : k < n
      · have hlx : k < xs.length := by rw [HL.out]; exact hlt
        have hly : k < ys.length := by rw [← HN.out]; exact hlx
        obtain ⟨b1, o1, rfl, hc⟩ := (HA.out.below hb).open hlx
        obtain ⟨b2, o2, rfl, hd⟩ := (HB.out.below hb).open hly
        obtain ⟨c0, c1, c2, c3⟩ := (hc k hlx).grown
        obtain ⟨d0, d1, d2, d3⟩ := (hd k hly).grown
        have he := run_neq_tok xs[k] ys[k]
        cases hq : eqT xs[k] ys[k]
        · have HV := Lib.hid (same_elem hlx hly hq)
          rw [hq] at he
          generalize xs[k] = p at c0 c1 c2 c3 he
          generalize ys[k] = q at d0 d1 d2 d3 he
          clear hq hc hd
          go_wp2_with fail
          refine wp_region_quiet_below (by kernel_rfl) (by kernel_rfl) ?_
          repeat (go_big_quiet_step (fail))
          refine wpQuiet_nil ?_
          intro w4 hw'
          have hb4 : Below wr.heap.size wr w4 := by
            obtain ⟨⟨dq, osq⟩, hw''⟩ := hw'
            rw [hw'']
            exact below_regrown _ dq osq
          clear hw'
          go_wp2_with fail
          go_ret
          exact ⟨ret_bool HV.out.symm, below_2 hb hb4⟩
        · have HK2 : Hid (∀ j (h1 : j < xs.length) (h2 : j < ys.length), j < k + 1 → eqT xs[j] ys[j] = true) := by
            intro j h1 h2 hj
            by_cases e : j = k
            · subst e; exact hq
            · exact HK.out j h1 h2 (by omega)
          rw [hq] at he
          generalize xs[k] = p at c0 c1 c2 c3 he
          generalize ys[k] = q at d0 d1 d2 d3 he
          clear hq hc hd
          go_wp2_with fail
          refine wp_region_quiet_below (by kernel_rfl) (by kernel_rfl) ?_
          repeat (go_big_quiet_step (fail))
          refine wpQuiet_nil ?_
          intro w4 hw'
          have hb4 : Below wr.heap.size wr w4 := by
            obtain ⟨⟨dq, osq⟩, hw''⟩ := hw'
            rw [hw'']
            exact below_regrown _ dq osq
          clear hw'
          go_wp2_with fail
          go_roundw
          case rel => exact ⟨k + 1, by omega, by go_num, below_2 hb hb4, HK2⟩
          case measure => simp [intOf]; omega
      · obtain rfl : n = k := by omega
        have HV : Hid (same xs ys = true) := same_all HN.out fun j h1 h2 => HK.out j h1 h2 (by rw [← HL.out]; exact h1)
        go_wp2_with fail
        go_ret
        exact ⟨ret_bool HV.out.symm, hb⟩
  · have HV := Lib.hid (same_len hnm)
    have bn : ((xs.length : Int) != (ys.length : Int)) = true := bne_iff_ne.2 (by omega)
    clear hA hB hnm
    go_enter Tryd.func20, Tryd.ntmps20
    go_wp2
    go_ret
    exact ⟨ret_bool HV.out.symm, Below.refl _ _⟩
end Go.Proofs.YtaimmcibdepejaaDoor.L
