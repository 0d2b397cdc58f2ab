/-
  What the reference of layer 6 returns: Diff: its contract.
-/
import Derived.Test.YtieloegadhgipaaSParts
namespace Go.Proofs.Ytieloegadhgipaa.S
open Go.RowKit
open Go.Proofs.Ytieloegadhgipaa.V (ret_bool ret_int ret_string below_2 below_box below_box2)

/-- whether two pairs have the same value, as the program compares them -/
def eqV (p q : P) : Bool := decide (p.pr.2 = q.pr.2)
theorem eqV_iff {p q : P} : eqV p q = true ↔ p.pr.2 = q.pr.2 := decide_eq_true_iff
theorem eqV_parts (p q : P) : eqV p q = (p.k == q.k && (p.n == q.n && p.s.toList == q.s.toList)) := by
  rw [K.eql_eq]
  refine V.bool_iff ?_
  rw [eqV_iff]
  simp only [Bool.and_eq_true, beq_iff_eq, decide_eq_true_eq]
  unfold P.pr
  simp only [V.Val.mk.injEq]
theorem run_neq_val (p q : P) (W : World) : (binOp .neq 30 (.agg #[.int .i64 p.k, .int .i64 p.n, .string p.s]) (.agg #[.int .i64 q.k, .int .i64 q.n, .string q.s])).run Try.prog W = .ok (.bool !eqV p q) W := by
  rw [eqV_parts]
  go_simp
  by_cases h2 : p.k = q.k <;> by_cases h3 : p.n = q.n <;> by_cases h4 : p.s.toList = q.s.toList <;> simp [h2, h3, h4]
theorem run_eql_val (p q : P) (W : World) : (binOp .eql 30 (.agg #[.int .i64 p.k, .int .i64 p.n, .string p.s]) (.agg #[.int .i64 q.k, .int .i64 q.n, .string q.s])).run Try.prog W = .ok (.bool (eqV p q)) W := by
  rw [eqV_parts]
  go_simp
  by_cases h2 : p.k = q.k <;> by_cases h3 : p.n = q.n <;> by_cases h4 : p.s.toList = q.s.toList <;> simp [h2, h3, h4]
/-- a pair that deletes -/
def del (p : P) : P := ⟨p.key, 0, 0, ⟨#[]⟩⟩
def other (xs : List P) (p : P) : Bool := !eqV (getP xs p.key) p
def delP (ys xs : List P) : List P := (xs.filter (keep ys)).map del
def difP (xs ys : List P) : List P := (ys.filter (other xs)).foldl insP (delP ys xs)
theorem difP_prs (xs ys : List P) : prs (difP xs ys) = dif (prs xs) (prs ys) := by
  unfold difP delP dif
  rw [foldl_prs, filter_prs (f := other xs) (g := fun p => decide (get (prs xs) p.1 ≠ p.2)) (fun p => ?_)]
  · congr 1
    rw [← filter_prs (f := keep ys) (g := fun p => !has (prs ys) p.1) (fun p => rfl)]
    unfold prs
    rw [List.map_map, List.map_map]
    rfl
  · unfold other eqV
    rw [getP_val, ← decide_not]
    rfl
theorem delP_next {ys xs : List P} {k : Nat} (h : k < xs.length) : (keep ys xs[k] = true → delP ys (xs.take (k + 1)) = delP ys (xs.take k) ++ [del xs[k]]) ∧ (keep ys xs[k] = false → delP ys (xs.take (k + 1)) = delP ys (xs.take k)) := by
  obtain ⟨n1, n2⟩ := filter_next (f := keep ys) h
  unfold delP
  exact ⟨fun hk => by rw [n1 hk, List.map_append]; rfl, fun hk => by rw [n2 hk]⟩
theorem delP_len (ys xs : List P) (k : Nat) : (delP ys (xs.take k)).length ≤ xs.length := by
  unfold delP
  rw [List.length_map]
  exact filter_len (keep ys) xs k
theorem fold_next {f : P → Bool} {ys zs : List P} {k : Nat} (h : k < ys.length) : (f ys[k] = true → ((ys.take (k + 1)).filter f).foldl insP zs = insP (((ys.take k).filter f).foldl insP zs) ys[k]) ∧ (f ys[k] = false → ((ys.take (k + 1)).filter f).foldl insP zs = ((ys.take k).filter f).foldl insP zs) := by
  obtain ⟨n1, n2⟩ := filter_next (f := f) h
  exact ⟨fun hk => by rw [n1 hk, List.foldl_append]; rfl, fun hk => by rw [n2 hk]⟩
theorem foldf_len (f : P → Bool) (ys zs : List P) (k : Nat) : (((ys.take k).filter f).foldl insP zs).length ≤ zs.length + ys.length := by
  rw [fold_len]
  have := filter_len f ys k
  omega
/-- what Diff returns -/
def dffP (xs ys : List P) : List P × Int := if vs (prs xs) && vs (prs ys) then (difP xs ys, 0) else ([], 1)
theorem dffP_prs (xs ys : List P) : prs (dffP xs ys).1 = (dff (prs xs) (prs ys)).1 ∧ (dffP xs ys).2 = (dff (prs xs) (prs ys)).2 := by
  unfold dffP dff
  split
  · exact ⟨difP_prs xs ys, rfl⟩
  · exact ⟨rfl, rfl⟩
theorem dffP_no {xs ys : List P} (h : vs (prs xs) = false ∨ vs (prs ys) = false) : dffP xs ys = ([], 1) := by
  unfold dffP
  rcases h with h | h
  · rw [h]; rfl
  · rw [h, Bool.and_false]; rfl
theorem dffP_ok {xs ys : List P} (h : vs (prs xs) = true) (h2 : vs (prs ys) = true) : dffP xs ys = (difP xs ys, 0) := by unfold dffP; rw [h, h2]; rfl
set_option maxHeartbeats 4000000 in
set_option maxRecDepth 100000 in
theorem rdiff_any (a b : Option Addr) (c d : Nat) (xs ys : List P) (hf : Fits xs) (hg : Fits ys) (w : World) (hA : Prs w a xs) (hB : Prs w b ys) :
    Calls Try.prog 20 #[.slice a xs.length c, .slice b ys.length d] w fun e w' => Gives e w' (dffP xs ys) ∧ Below w.heap.size w w' := by
  have hvs := rvs_all a c xs hf w hA
  have hvw := fun w1 h => rvs_all b d ys hg w1 h
  cases h1 : vs (prs xs)
  · rw [h1] at hvs
    have HR := Lib.hid (dffP_no (ys := ys) (Or.inl h1))
    have HV := Lib.hid hvs
    clear hvs hvw hA hB h1
    go_enter Try.func20, Try.ntmps20
    go_wp2_with fail
    refine HV.out.mono ?_; rintro e w1 ⟨rfl, hb1⟩
    go_wp2_with fail
    go_ret2
    exact ⟨⟨none, 0, by rw [HR.out]; rfl, by rw [HR.out]; exact Sl.empty _⟩, hb1⟩
  · cases h2 : vs (prs ys)
    · rw [h1] at hvs
      rw [h2] at hvw
      have HR := Lib.hid (dffP_no (xs := xs) (Or.inr h2))
      have HV := Lib.hid hvs
      have HW := Lib.hid hvw
      have HB := Lib.hid hB
      clear hvs hvw hA hB h1 h2
      go_enter Try.func20, Try.ntmps20
      go_wp2_with fail
      refine HV.out.mono ?_; rintro e w1 ⟨rfl, hb1⟩
      go_wp2_with fail
      refine (HW.out _ (HB.out.below hb1)).mono ?_; rintro e w2 ⟨rfl, hb2⟩
      go_wp2_with fail
      go_ret2
      exact ⟨⟨none, 0, by rw [HR.out]; rfl, by rw [HR.out]; exact Sl.empty _⟩, below_2 hb1 hb2⟩
    · rw [h1] at hvs
      rw [h2] at hvw
      have HR := Lib.hid (dffP_ok h1 h2)
      have HV := Lib.hid hvs
      have HW := Lib.hid hvw
      have HB := Lib.hid hB
      have HA := Lib.hid hA
      have HGet := Lib.hid (fun q w h => rget_any a c xs q hf.len w h)
      have hx := hf.len
      have hy := hg.len
      clear hvs hvw hA hB h1 h2 hf hg
      obtain ⟨n, hn⟩ : ∃ n, xs.length = n := ⟨_, rfl⟩
      obtain ⟨m, hm⟩ : ∃ m, ys.length = m := ⟨_, rfl⟩
      have HL := Lib.hid hn
      have HM := Lib.hid hm
      rw [hn] at HV hx HGet ⊢
      rw [hm] at HW hy ⊢
      clear hn hm
      go_enter Try.func20, Try.ntmps20
      go_wp2_with fail
      refine HV.out.mono ?_; rintro e w1 ⟨rfl, hb1⟩
      go_wp2_with fail
      refine (HW.out _ (HB.out.below hb1)).mono ?_; rintro e w2 ⟨rfl, hb2⟩
      have HB2 := Lib.hid (below_2 hb1 hb2)
      have HPA := Lib.hid (HA.out.below HB2.out)
      have HPB := Lib.hid (HB.out.below HB2.out)
      clear hb1 hb2
      go_wp2
      go_loopw [6, 7] (fun vo vi wr => ∃ k : Nat, k ≤ n ∧ vi = .int .i64 k ∧ Hid (wr.ownsRow w2.heap.size 33 4 vo (delP ys (xs.take k)).length (pc (delP ys (xs.take k)))) ∧ Below w2.heap.size w2 wr) (fun _ vi _ => n - (intOf vi).toNat)
      case atStart => exact ⟨0, Nat.zero_le _, rfl, World.ownsRow_nil _ _ _ _, Below.refl _ _⟩
      case round =>
        obtain ⟨k, hk, rfl, HO, hb⟩ := hrel
        by_cases hlt : k < n
        · have hlx : k < xs.length := by rw [HL.out]; exact hlt
          have HH := Lib.hid (rhas_any b d ys xs[k].key (by rw [HM.out]; omega) wr (HPB.out.below hb))
          rw [HM.out] at HH
          obtain ⟨b1, o1, rfl, hc⟩ := (HPA.out.below hb).open hlx
          obtain ⟨c0, c1, c2, c3⟩ := hc k hlx
          have hl := delP_len ys xs k
          rw [HL.out] at hl
          have hzr := hb.size
          obtain ⟨n1, n2⟩ := delP_next (ys := ys) hlx
          cases hq : has (prs ys) xs[k].key.data.toList
          · have HN := Lib.hid (n1 (by unfold keep; rw [hq]; rfl))
            rw [hq] at HH
            generalize xs[k] = p at c0 c1 c2 c3 HH HN
            clear n1 n2 hc hq
            go_wp2_with fail
            refine HH.out.mono ?_; rintro e w3 ⟨rfl, he⟩; obtain rfl : wr = w3 := he.symm
            go_wp2_with (at_builtin; refine wpList_append_pair rfl _ _ rfl w2.heap.size u6 (delP ys (xs.take k)) rfl (del p) HO.out rfl (by omega) (by omega) ?_; intro v1 w4 hown1 hgrow1; have hb2 := below_app hb (by omega) hgrow1 (own_ge HO.out))
            go_roundw
            case rel => exact ⟨k + 1, by omega, by go_num, (by unfold Hid; rw [HN.out]; exact hown1), hb2⟩
            case measure => simp [intOf]; omega
          · have HN := Lib.hid (n2 (by unfold keep; rw [hq]; rfl))
            rw [hq] at HH
            generalize xs[k] = p at c0 c1 c2 c3 HH
            clear n1 n2 hc hq
            go_wp2_with fail
            refine HH.out.mono ?_; rintro e w3 ⟨rfl, he⟩; obtain rfl : wr = w3 := he.symm
            go_wp2_with fail
            go_roundw
            case rel => exact ⟨k + 1, by omega, by go_num, (by unfold Hid; rw [HN.out]; exact HO.out), hb⟩
            case measure => simp [intOf]; omega
        · obtain rfl : n = k := by omega
          have hown := HO.out
          rw [List.take_of_length_le (by rw [HL.out]; exact Nat.le_refl _)] at hown
          obtain ⟨a1, c1, rfl, hS1⟩ := own_sl hown
          have HS1 := Lib.hid hS1
          have hl1 := delP_len ys xs xs.length
          rw [List.take_length, HL.out] at hl1
          have HRR : Hid (difP xs ys = (ys.filter (other xs)).foldl insP (delP ys xs)) := rfl
          generalize delP ys xs = zs at HS1 hl1 HRR
          have HBr := Lib.hid hb
          have HPBr := Lib.hid (HPB.out.below hb)
          have HPAr := Lib.hid (HPA.out.below hb)
          clear hown hS1 HO hb
          obtain ⟨w5, e5⟩ : ∃ w5, w5 = wr := ⟨_, rfl⟩
          subst e5
          go_wp2_with fail
          go_loopw [6, 8] (fun vo vi wr => ∃ (k : Nat) (a2 : Option Addr) (c2 : Nat), k ≤ m ∧ vi = .int .i64 k ∧ vo = .slice a2 (((ys.take k).filter (other xs)).foldl insP zs).length c2 ∧ Hid (Sl wr a2 c2 (((ys.take k).filter (other xs)).foldl insP zs)) ∧ Below w5.heap.size w5 wr) (fun _ vi _ => m - (intOf vi).toNat)
          case atStart => exact ⟨0, a1, c1, Nat.zero_le _, rfl, rfl, HS1.out, Below.refl _ _⟩
          case round =>
            obtain ⟨k, a2, c2, hk, rfl, rfl, HS2, hb⟩ := hrel
            have hzr := hb.size
            by_cases hlt : k < m
            · have hly : k < ys.length := by rw [HM.out]; exact hlt
              have HGt := Lib.hid (grownP (HPAr.out.below hb) (HGet.out ys[k].key))
              simp only [P.v] at HGt
              obtain ⟨b1, o1, rfl, hc⟩ := (HPBr.out.below hb).open hly
              obtain ⟨d0, d1, d2, d3⟩ := (hc k hly).grown
              have hAt := Lib.hid (hc k hly)
              have hl2 := foldf_len (other xs) ys zs k
              rw [HM.out] at hl2
              obtain ⟨n1, n2⟩ := fold_next (f := other xs) (zs := zs) hly
              have he := run_neq_val (getP xs ys[k].key) ys[k]
              have hS2 := fun (w : World) (h : Sl w a2 c2 (((ys.take k).filter (other xs)).foldl insP zs)) => rwith_any a2 c2 (((ys.take k).filter (other xs)).foldl insP zs) ys[k] (by omega) w h
              generalize ((ys.take k).filter (other xs)).foldl insP zs = zk at HS2 hl2 n1 n2 hS2 ⊢
              cases hz : eqV (getP xs ys[k].key) ys[k]
              · have HN := Lib.hid (n1 (by unfold other; rw [hz]; rfl))
                rw [hz] at he
                have HI := Lib.hid hS2
                generalize getP xs ys[k].key = g at HGt he
                generalize ys[k] = p at d0 d1 d2 d3 HGt he HN HI hAt
                clear n1 n2 hc hz hS2
                go_wp2_with fail
                refine wp_region_quiet_below (by kernel_rfl) (by kernel_rfl) ?_
                repeat (go_big_quiet_step (with_reducible exact HGt.out _ _))
                refine wpQuiet_nil ?_
                intro w6 hw'
                have hb6 : Below wr.heap.size wr w6 := by
                  obtain ⟨⟨dq, osq⟩, hw''⟩ := hw'
                  rw [hw'']
                  exact below_regrown _ dq osq
                clear hw' d0 d1 d2 d3
                obtain ⟨d0, d1, d2, d3⟩ := hAt.out.below hb6 hAt.out.lt
                have HB6 := Lib.hid (below_2 hb hb6)
                have HI2 := Lib.hid (HI.out w6 (HS2.out.below hb6))
                go_wp2_with fail
                refine HI2.out.mono ?_; rintro e w4 ⟨a3, c3, rfl, hS3, hb4⟩
                go_wp2_with fail
                go_roundw
                case rel => exact ⟨k + 1, a3, c3, by omega, by go_num, by rw [HN.out], (by unfold Hid; rw [HN.out]; exact hS3), below_2 HB6.out hb4⟩
                case measure => simp [intOf]; omega
              · have HN := Lib.hid (n2 (by unfold other; rw [hz]; rfl))
                rw [hz] at he
                generalize getP xs ys[k].key = g at HGt he
                generalize ys[k] = p at d0 d1 d2 d3 HGt he
                clear n1 n2 hc hz hS2 hAt
                go_wp2_with fail
                refine wp_region_quiet_below (by kernel_rfl) (by kernel_rfl) ?_
                repeat (go_big_quiet_step (with_reducible exact HGt.out _ _))
                refine wpQuiet_nil ?_
                intro w6 hw'
                have hb6 : Below wr.heap.size wr w6 := by
                  obtain ⟨⟨dq, osq⟩, hw''⟩ := hw'
                  rw [hw'']
                  exact below_regrown _ dq osq
                clear hw' d0 d1 d2 d3
                have HB6 := Lib.hid (below_2 hb hb6)
                go_wp2_with fail
                go_roundw
                case rel => exact ⟨k + 1, a2, c2, by omega, by go_num, by rw [HN.out], (by unfold Hid; rw [HN.out]; exact HS2.out.below hb6), HB6.out⟩
                case measure => simp [intOf]; omega
            · obtain rfl : m = k := by omega
              have hS3 := HS2.out
              rw [List.take_of_length_le (by rw [HM.out]; exact Nat.le_refl _)] at hS3 ⊢
              rw [← HRR.out] at hS3 ⊢
              have HS3 := Lib.hid hS3
              clear hS3 HS2
              go_wp2_with fail
              go_ret2
              exact ⟨⟨a2, c2, by rw [HR.out]; rfl, by rw [HR.out]; exact HS3.out⟩, below_2 HB2.out (below_2 HBr.out hb)⟩
end Go.Proofs.Ytieloegadhgipaa.S
