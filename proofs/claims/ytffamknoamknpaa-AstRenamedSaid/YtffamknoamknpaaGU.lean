/-
  What the reference of layer 8 returns: uses, swap: contracts.
  What the reference of layer 8 returns: Occurs: a contract.
-/
import Derived.Test.YtffamknoamknpaaGW
import Derived.Test.YtffamknoamknpaaGC
namespace Go.Proofs.Ytffamknoamknpaa.A
open Go.RowKit
open L (Str isName prt size_len below_2 below_box ret_bool ret_int eql_eq bytes_eq)

theorem results_tmp6 {fn : Func} {t1 t2 t3 t4 t5 t6 : Tmp} (h : fn.results = #[.tmp t1, .tmp t2, .tmp t3, .tmp t4, .tmp t5, .tmp t6]) (tmps : Array Value) (P : Program) (w : World) :
    (results fn tmps).run P w = .ok (.tuple #[tmps.getD t1 undef, tmps.getD t2 undef, tmps.getD t3 undef, tmps.getD t4 undef, tmps.getD t5 undef, tmps.getD t6 undef]) w := by
  simp [results, h]
/-- which fields a statement uses, as six Booleans -/
def usesV (o : Int) : Value := .tuple #[.bool (uN o), .bool (uM o), .bool (uA o), .bool (uB o), .bool (uD o), .bool (uE o)]
set_option maxHeartbeats 2000000 in
set_option maxRecDepth 100000 in
theorem ruses_any (op : Int) (w : World) : Calls Try.prog 85 #[.int .i64 op] w fun e w' => e = .returned (usesV op) ∧ w' = w := by
  by_cases h1 : op = 1
  · subst h1
    go_enter Try.func85, Try.ntmps85
    go_wp2_with fail
    (try simp only [Exit.inBlock, Exit.then])
    refine bodyPost_ret (results_tmp6 rfl _ _ _) rfl ?_
    exact ⟨rfl, rfl⟩
  by_cases h2 : op = 2
  · subst h2
    go_enter Try.func85, Try.ntmps85
    go_wp2_with fail
    (try simp only [Exit.inBlock, Exit.then])
    refine bodyPost_ret (results_tmp6 rfl _ _ _) rfl ?_
    exact ⟨rfl, rfl⟩
  by_cases h3 : op = 3
  · subst h3
    go_enter Try.func85, Try.ntmps85
    go_wp2_with fail
    (try simp only [Exit.inBlock, Exit.then])
    refine bodyPost_ret (results_tmp6 rfl _ _ _) rfl ?_
    exact ⟨rfl, rfl⟩
  by_cases h4 : op = 4
  · subst h4
    go_enter Try.func85, Try.ntmps85
    go_wp2_with fail
    (try simp only [Exit.inBlock, Exit.then])
    refine bodyPost_ret (results_tmp6 rfl _ _ _) rfl ?_
    exact ⟨rfl, rfl⟩
  by_cases h5 : op = 5
  · subst h5
    go_enter Try.func85, Try.ntmps85
    go_wp2_with fail
    (try simp only [Exit.inBlock, Exit.then])
    refine bodyPost_ret (results_tmp6 rfl _ _ _) rfl ?_
    exact ⟨rfl, rfl⟩
  by_cases h6 : op = 6
  · subst h6
    go_enter Try.func85, Try.ntmps85
    go_wp2_with fail
    (try simp only [Exit.inBlock, Exit.then])
    refine bodyPost_ret (results_tmp6 rfl _ _ _) rfl ?_
    exact ⟨rfl, rfl⟩
  by_cases h7 : op = 7
  · subst h7
    go_enter Try.func85, Try.ntmps85
    go_wp2_with fail
    (try simp only [Exit.inBlock, Exit.then])
    refine bodyPost_ret (results_tmp6 rfl _ _ _) rfl ?_
    exact ⟨rfl, rfl⟩
  have b1 : (op == 1) = false := beq_eq_false_iff_ne.2 h1
  have b2 : (op == 2) = false := beq_eq_false_iff_ne.2 h2
  have b3 : (op == 3) = false := beq_eq_false_iff_ne.2 h3
  have b4 : (op == 4) = false := beq_eq_false_iff_ne.2 h4
  have b5 : (op == 5) = false := beq_eq_false_iff_ne.2 h5
  have b6 : (op == 6) = false := beq_eq_false_iff_ne.2 h6
  have b7 : (op == 7) = false := beq_eq_false_iff_ne.2 h7
  have HV : Hid (usesV op = .tuple #[.bool false, .bool true, .bool false, .bool false, .bool false, .bool false]) := by
    show _ = _
    unfold usesV uN uM uA uB uD uE
    simp [h1, h2, h3, h4, h5, h6, h7]
  rw [HV.out]
  clear h1 h2 h3 h4 h5 h6 h7
  go_enter Try.func85, Try.ntmps85
  go_wp2_with fail
  (try simp only [Exit.inBlock, Exit.then])
  refine bodyPost_ret (results_tmp6 rfl _ _ _) rfl ?_
  exact ⟨rfl, rfl⟩
set_option maxHeartbeats 2000000 in
set_option maxRecDepth 100000 in
theorem rswap_any (x f t : ByteArray) (w : World) : Calls Try.prog 66 #[.string x, .string f, .string t] w fun e w' => e = .returned (.string (swap f t x)) ∧ w' = w := by
  by_cases h : x = f
  · have HV : Hid (swap f t x = t) := by show _ = _; unfold swap; rw [if_pos h]
    have hb : (x.toList == f.toList) = true := by rw [eql_eq]; exact decide_eq_true (by rw [h])
    rw [HV.out]
    clear h
    go_enter Try.func66, Try.ntmps66
    go_wp2_with fail
    go_ret
    exact ⟨rfl, rfl⟩
  · have HV : Hid (swap f t x = x) := by show _ = _; unfold swap; rw [if_neg h]
    have hb : (x.toList == f.toList) = false := by rw [eql_eq]; exact decide_eq_false (fun h2 => h (bytes_eq h2))
    rw [HV.out]
    clear h
    go_enter Try.func66, Try.ntmps66
    go_wp2_with fail
    go_ret
    exact ⟨rfl, rfl⟩
end Go.Proofs.Ytffamknoamknpaa.A
namespace Go.Proofs.Ytffamknoamknpaa.A
open Go.RowKit
open L (Str isName prt size_len below_2 below_box ret_bool ret_int eql_eq bytes_eq)

theorem eql_yes {a b : ByteArray} (h : a = b) : (a.toList == b.toList) = true := by rw [eql_eq]; exact decide_eq_true (by rw [h])
theorem eql_no {a b : ByteArray} (h : ¬ a = b) : (a.toList == b.toList) = false := by rw [eql_eq]; exact decide_eq_false (fun h2 => h (bytes_eq h2))
theorem occurs_par {p : Pr} {x : ByteArray} {k : Nat} (h : k < p.params.length) (hx : p.params[k].name = x) : occurs p x = true := by
  unfold occurs
  rw [List.any_eq_true.2 ⟨p.params[k], List.getElem_mem h, decide_eq_true hx⟩, Bool.true_or]
theorem occurs_walk {p : Pr} {x : ByteArray} {k : Nat} (h : k < (walk p).length) (hx : V.says x (walk p)[k] = true) : occurs p x = true := by
  unfold occurs
  rw [List.any_eq_true.2 ⟨(walk p)[k], List.getElem_mem h, hx⟩, Bool.or_true]
theorem occurs_no {p : Pr} {x : ByteArray} (h1 : ∀ j (h : j < p.params.length), ¬ p.params[j].name = x) (h2 : ∀ j (h : j < (walk p).length), V.says x (walk p)[j] = false) : occurs p x = false := by
  unfold occurs
  have e1 : p.params.any (fun q => decide (q.name = x)) = false := by
    rw [List.any_eq_false]
    intro q hq
    obtain ⟨j, hj, rfl⟩ := List.getElem_of_mem hq
    rw [decide_eq_true_eq]
    exact h1 j hj
  have e2 : (walk p).any (V.says x) = false := by
    rw [List.any_eq_false]
    intro q hq
    obtain ⟨j, hj, rfl⟩ := List.getElem_of_mem hq
    rw [h2 j hj]
    decide
  rw [e1, e2]; rfl
set_option maxHeartbeats 4000000 in
set_option maxRecDepth 100000 in
theorem roccurs_any (p : Pr) (a1 : Option Addr) (c1 : Nat) (a2 : Option Addr) (c2 : Nat) (x : ByteArray) (hok : OkP p) (w : World) (hK : PrIn w p a1 a2) :
    Calls Try.prog 34 #[prV p a1 c1 a2 c2, .string x] w fun e' w' => e' = .returned (.bool (occurs p x)) ∧ Below w.heap.size w w' := by
  have hw := below_box w (prO p a1 c1 a2 c2)
  have HW := Lib.hid hw
  have HBL := Lib.hid (fun w' hb => proc_later (w := w) (w' := w') (p := p) (a1 := a1) (a2 := a2) (c1 := c1) (c2 := c2) hb)
  have HKK := Lib.hid hK
  have HC := Lib.hid (fun w hK => rwalk_any p a1 a2 c1 c2 hok.body hok.bodyLen w hK)
  have hpl := hok.params
  have hn : (walk p).length ≤ 401 := by unfold walk; rw [List.length_take]; omega
  have S1 : Hid (∀ k (h : k < p.params.length), p.params[k].name = x → occurs p x = true) := fun k h hx => occurs_par h hx
  have S2 : Hid (∀ k (h : k < (walk p).length), V.says x (walk p)[k] = true → occurs p x = true) := fun k h hx => occurs_walk h hx
  have S3 : Hid ((∀ j (h : j < p.params.length), ¬ p.params[j].name = x) → (∀ j (h : j < (walk p).length), V.says x (walk p)[j] = false) → occurs p x = false) := fun h1 h2 => occurs_no h1 h2
  obtain ⟨g, hg⟩ : ∃ g, p.params.length = g := ⟨_, rfl⟩
  have HL := Lib.hid hg
  unfold prV prO at *
  rw [hg] at HW HBL hpl HC ⊢
  clear hw hK hok hg
  go_enter Try.func34, Try.ntmps34
  go_wp2_with fail
  go_loopw [5] (fun s5 wr => ∃ k : Nat, k ≤ g ∧ s5 = .int .i64 k ∧ Hid (∀ j (h : j < p.params.length), j < k → ¬ p.params[j].name = x) ∧ Hid (Below (w.alloc (.cells #[.string p.name, .slice a1 g c1, .slice a2 p.body.length c2] 35)).heap.size (w.alloc (.cells #[.string p.name, .slice a1 g c1, .slice a2 p.body.length c2] 35)) wr)) (fun s5 _ => g - (intOf s5).toNat)
  case atStart => exact ⟨0, Nat.zero_le _, rfl, fun j _ h => absurd h (Nat.not_lt_zero _), Below.refl _ _⟩
  case round =>
    obtain ⟨k, hk, rfl, HX, HB⟩ := hrel
    obtain ⟨c0', c1', c2'⟩ := HBL.out _ HB.out
    have HBB := Lib.hid (below_2 HW.out HB.out)
    by_cases hlt : k < g
    · have hlx : k < p.params.length := by rw [HL.out]; exact hlt
      obtain ⟨b3, i3, rfl, hc⟩ := (HKK.out.below HBB.out).params.open hlx
      obtain ⟨f0, f1⟩ := hc k hlx
      have HS1 := Lib.hid (S1.out k hlx)
      have HN : Hid (¬ p.params[k].name = x → ∀ j (h : j < p.params.length), j < k + 1 → ¬ p.params[j].name = x) := by
        intro hne j h hj
        by_cases hjk : j = k
        · subst hjk; exact hne
        · exact HX.out j h (by omega)
      generalize p.params[k] = q at f0 f1 HS1 HN
      by_cases hx : q.name = x
      · have hb := eql_yes hx
        have HV := Lib.hid (HS1.out hx)
        clear hc hx
        go_wp2_with fail
        go_ret
        exact ⟨ret_bool HV.out.symm, HBB.out⟩
      · have hb := eql_no hx
        have HV := Lib.hid (HN.out hx)
        clear hc hx
        go_wp2_with fail
        go_roundw
        case rel => exact ⟨k + 1, by omega, by go_num, HV.out, HB.out⟩
        case measure => simp [intOf]; omega
    · have HN : Hid (∀ j (h : j < p.params.length), ¬ p.params[j].name = x) := fun j h => HX.out j h (by have := HL.out; omega)
      go_wp2_with fail
      refine (HC.out _ (HKK.out.below HBB.out).body).mono ?_; rintro e w2 ⟨p3, q3, l', rfl, ho, hi, hv, hb2⟩
      have HO := Lib.hid ho
      have HW2 := Lib.hid hv
      have hln : l'.length ≤ 401 := by rw [← vs_len, hv]; exact hn
      have HV : Hid (Below w.heap.size w w2) := below_2 HBB.out hb2
      clear ho hi hv hb2 c0' c1' c2'
      go_wp2_with fail
      go_loopw [7] (fun s7 w3 => ∃ k : Nat, k ≤ l'.length ∧ s7 = .int .i64 k ∧ Hid (∀ j (h : j < (walk p).length), j < k → V.says x (walk p)[j] = false) ∧ w3 = w2) (fun s7 _ => l'.length - (intOf s7).toNat)
      case atStart => exact ⟨0, Nat.zero_le _, rfl, fun j _ h => absurd h (Nat.not_lt_zero _), rfl⟩
      case round =>
        obtain ⟨k2, hk2, rfl, HX2, rfl⟩ := hrel
        by_cases hlt2 : k2 < l'.length
        · obtain ⟨g3, rfl, hcell⟩ := visit_cells HO.out hlt2
          have hlw : k2 < (walk p).length := by rw [← HW2.out, vs_len]; exact hlt2
          have hvk : (walk p)[k2] = (l'[k2]).v := by simp only [← HW2.out, vs, List.getElem_map]
          have HS2 := Lib.hid (S2.out k2 hlw)
          have HN2 : Hid (V.says x (walk p)[k2] = false → ∀ j (h : j < (walk p).length), j < k2 + 1 → V.says x (walk p)[j] = false) := by
            intro hne j h hj
            by_cases hjk : j = k2
            · subst hjk; exact hne
            · exact HX2.out j h (by omega)
          rw [hvk] at HS2 HN2
          generalize l'[k2] = y at hcell HS2 HN2
          clear hvk hlw
          cases y with
          | st s d a5 c5 a6 c6 a7 c7 a8 c8 =>
            have f0 : wr.cell? ⟨g3, k2 * 20, none⟩ = some (.bool true) := hcell 0 (by omega)
            have f2 : wr.cell? ⟨g3, k2 * 20 + 2, none⟩ = some (.string s.name) := hcell 2 (by omega)
            clear hcell
            by_cases hx : s.name = x
            · have hb := eql_yes hx
              have HV2 := Lib.hid (HS2.out (by show V.says x (.st s d) = true; unfold V.says; exact decide_eq_true hx))
              clear hx
              go_wp2_with fail
              go_ret
              exact ⟨ret_bool HV2.out.symm, HV.out⟩
            · have hb := eql_no hx
              have HV2 := Lib.hid (HN2.out (by show V.says x (.st s d) = false; unfold V.says; exact decide_eq_false hx))
              clear hx
              go_wp2_with fail
              go_roundw
              case rel => exact ⟨k2 + 1, by omega, by go_num, HV2.out, trivial⟩
              case measure => simp [intOf]; omega
          | ex e r a5 c5 =>
            have f0 : wr.cell? ⟨g3, k2 * 20, none⟩ = some (.bool false) := hcell 0 (by omega)
            have f15 : wr.cell? ⟨g3, k2 * 20 + 15, none⟩ = some (.int .i64 e.op) := hcell 15 (by omega)
            have f17 : wr.cell? ⟨g3, k2 * 20 + 17, none⟩ = some (.string e.s) := hcell 17 (by omega)
            clear hcell
            by_cases h3 : e.op = 3
            · have b3 : (e.op == 3) = true := beq_iff_eq.2 h3
              by_cases hx : e.s = x
              · have hb := eql_yes hx
                have HV2 := Lib.hid (HS2.out (by show V.says x (.ex e r) = true; unfold V.says; simp [h3, hx]))
                clear hx h3
                go_wp2_with fail
                go_ret
                exact ⟨ret_bool HV2.out.symm, HV.out⟩
              · have hb := eql_no hx
                have HV2 := Lib.hid (HN2.out (by show V.says x (.ex e r) = false; unfold V.says; simp [hx]))
                clear hx h3
                go_wp2_with fail
                go_roundw
                case rel => exact ⟨k2 + 1, by omega, by go_num, HV2.out, trivial⟩
                case measure => simp [intOf]; omega
            · have b3 : (e.op == 3) = false := beq_eq_false_iff_ne.2 h3
              have HV2 := Lib.hid (HN2.out (by show V.says x (.ex e r) = false; unfold V.says; simp [h3]))
              clear h3
              go_wp2_with fail
              go_roundw
              case rel => exact ⟨k2 + 1, by omega, by go_num, HV2.out, trivial⟩
              case measure => simp [intOf]; omega
        · have HV2 : Hid (occurs p x = false) := S3.out HN.out (fun j h => HX2.out j h (by rw [← HW2.out, vs_len] at h; omega))
          go_wp2_with fail
          go_ret
          exact ⟨ret_bool HV2.out.symm, HV.out⟩
end Go.Proofs.Ytffamknoamknpaa.A
