/-
  Declarations of texts that lie merged: what further laws need of AUses, AOccurs, AOY, ARefsH, ARP, ARV, AOP, AOR, ARE, ARB.
-/
import Derived.Test.YtgjnddjpinhkgaaDoorS4
import Derived.Test.YtgjnddjpinhkgaaDoorM08
import Derived.Test.YtgjnddjpinhkgaaDoorM09
import Derived.Test.YtgjnddjpinhkgaaDoorM10
import Derived.Deep.RegionWith
import Derived.Deep.Cut
import Derived.Deep.CutRange
import Derived.BigQuiet
import Derived.Deep.RegionLaw
import Derived.Deep.RegionHeld3
namespace Go.Proofs.YtgjnddjpinhkgaaDoor.A
open Go.RowKit
open L (Str isName prt size_len below_2 below_box ret_bool ret_int eql_eq bytes_eq)
theorem results_tmp6 {fn : Func} {t1 t2 t3 t4 t5 t6 : Tmp} (h : fn.results = #[.tmp t1, .tmp t2, .tmp t3, .tmp t4, .tmp t5, .tmp t6]) (tmps : Array Value) (P : Program) (w : World) :
    (results fn tmps).run P w = .ok (.tuple #[tmps.getD t1 undef, tmps.getD t2 undef, tmps.getD t3 undef, tmps.getD t4 undef, tmps.getD t5 undef, tmps.getD t6 undef]) w := by
  simp [results, h]
/-- which fields a statement uses, as six Booleans -/
def usesV (o : Int) : Value := .tuple #[.bool (uN o), .bool (uM o), .bool (uA o), .bool (uB o), .bool (uD o), .bool (uE o)]
set_option maxHeartbeats 2000000 in
set_option maxRecDepth 100000 in
theorem ruses_any (op : Int) (w : World) : Calls Tryd.prog 107 #[.int .i64 op] w fun e w' => e = .returned (usesV op) ∧ w' = w := by
  by_cases h1 : op = 1
  · subst h1
    go_enter Tryd.func107, Tryd.ntmps107
    go_wp2_with fail
    (try simp only [Exit.inBlock, Exit.then])
    refine bodyPost_ret (results_tmp6 rfl _ _ _) rfl ?_
    exact ⟨rfl, rfl⟩
  by_cases h2 : op = 2
  · subst h2
    go_enter Tryd.func107, Tryd.ntmps107
    go_wp2_with fail
    (try simp only [Exit.inBlock, Exit.then])
    refine bodyPost_ret (results_tmp6 rfl _ _ _) rfl ?_
    exact ⟨rfl, rfl⟩
  by_cases h3 : op = 3
  · subst h3
    go_enter Tryd.func107, Tryd.ntmps107
    go_wp2_with fail
    (try simp only [Exit.inBlock, Exit.then])
    refine bodyPost_ret (results_tmp6 rfl _ _ _) rfl ?_
    exact ⟨rfl, rfl⟩
  by_cases h4 : op = 4
  · subst h4
    go_enter Tryd.func107, Tryd.ntmps107
    go_wp2_with fail
    (try simp only [Exit.inBlock, Exit.then])
    refine bodyPost_ret (results_tmp6 rfl _ _ _) rfl ?_
    exact ⟨rfl, rfl⟩
  by_cases h5 : op = 5
  · subst h5
    go_enter Tryd.func107, Tryd.ntmps107
    go_wp2_with fail
    (try simp only [Exit.inBlock, Exit.then])
    refine bodyPost_ret (results_tmp6 rfl _ _ _) rfl ?_
    exact ⟨rfl, rfl⟩
  by_cases h6 : op = 6
  · subst h6
    go_enter Tryd.func107, Tryd.ntmps107
    go_wp2_with fail
    (try simp only [Exit.inBlock, Exit.then])
    refine bodyPost_ret (results_tmp6 rfl _ _ _) rfl ?_
    exact ⟨rfl, rfl⟩
  by_cases h7 : op = 7
  · subst h7
    go_enter Tryd.func107, Tryd.ntmps107
    go_wp2_with fail
    (try simp only [Exit.inBlock, Exit.then])
    refine bodyPost_ret (results_tmp6 rfl _ _ _) rfl ?_
    exact ⟨rfl, rfl⟩
  have b1 : (op == 1) = false := beq_eq_false_iff_ne.2 h1
  have b2 : (op == 2) = false := beq_eq_false_iff_ne.2 h2
  have b3 : (op == 3) = false := beq_eq_false_iff_ne.2 h3
  have b4 : (op == 4) = false := beq_eq_false_iff_ne.2 h4
  have b5 : (op == 5) = false := beq_eq_false_iff_ne.2 h5
  have b6 : (op == 6) = false := beq_eq_false_iff_ne.2 h6
  have b7 : (op == 7) = false := beq_eq_false_iff_ne.2 h7
  have HV : Hid (usesV op = .tuple #[.bool false, .bool true, .bool false, .bool false, .bool false, .bool false]) := by
    show _ = _
    unfold usesV uN uM uA uB uD uE
    simp [h1, h2, h3, h4, h5, h6, h7]
  rw [HV.out]
  clear h1 h2 h3 h4 h5 h6 h7
  go_enter Tryd.func107, Tryd.ntmps107
  go_wp2_with fail
  (try simp only [Exit.inBlock, Exit.then])
  refine bodyPost_ret (results_tmp6 rfl _ _ _) rfl ?_
  exact ⟨rfl, rfl⟩
set_option maxHeartbeats 2000000 in
set_option maxRecDepth 100000 in
theorem rswap_any (x f t : ByteArray) (w : World) : Calls Tryd.prog 47 #[.string x, .string f, .string t] w fun e w' => e = .returned (.string (swap f t x)) ∧ w' = w := by
  by_cases h : x = f
  · have HV : Hid (swap f t x = t) := by show _ = _; unfold swap; rw [if_pos h]
    have hb : (x.toList == f.toList) = true := by rw [eql_eq]; exact decide_eq_true (by rw [h])
    rw [HV.out]
    clear h
    go_enter Tryd.func47, Tryd.ntmps47
    go_wp2_with fail
    go_ret
    exact ⟨rfl, rfl⟩
  · have HV : Hid (swap f t x = x) := by show _ = _; unfold swap; rw [if_neg h]
    have hb : (x.toList == f.toList) = false := by rw [eql_eq]; exact decide_eq_false (fun h2 => h (bytes_eq h2))
    rw [HV.out]
    clear h
    go_enter Tryd.func47, Tryd.ntmps47
    go_wp2_with fail
    go_ret
    exact ⟨rfl, rfl⟩
end Go.Proofs.YtgjnddjpinhkgaaDoor.A
namespace Go.Proofs.YtgjnddjpinhkgaaDoor.A
open Go.RowKit
open L (Str isName prt size_len below_2 below_box ret_bool ret_int eql_eq bytes_eq)
theorem eql_yes {a b : ByteArray} (h : a = b) : (a.toList == b.toList) = true := by rw [eql_eq]; exact decide_eq_true (by rw [h])
theorem eql_no {a b : ByteArray} (h : ¬ a = b) : (a.toList == b.toList) = false := by rw [eql_eq]; exact decide_eq_false (fun h2 => h (bytes_eq h2))
theorem occurs_par {p : Pr} {x : ByteArray} {k : Nat} (h : k < p.params.length) (hx : p.params[k].name = x) : occurs p x = true := by
  unfold occurs
  rw [List.any_eq_true.2 ⟨p.params[k], List.getElem_mem h, decide_eq_true hx⟩, Bool.true_or]
theorem occurs_walk {p : Pr} {x : ByteArray} {k : Nat} (h : k < (walk p).length) (hx : V.says x (walk p)[k] = true) : occurs p x = true := by
  unfold occurs
  rw [List.any_eq_true.2 ⟨(walk p)[k], List.getElem_mem h, hx⟩, Bool.or_true]
theorem occurs_no {p : Pr} {x : ByteArray} (h1 : ∀ j (h : j < p.params.length), ¬ p.params[j].name = x) (h2 : ∀ j (h : j < (walk p).length), V.says x (walk p)[j] = false) : occurs p x = false := by
  unfold occurs
  have e1 : p.params.any (fun q => decide (q.name = x)) = false := by
    rw [List.any_eq_false]
    intro q hq
    obtain ⟨j, hj, rfl⟩ := List.getElem_of_mem hq
    rw [decide_eq_true_eq]
    exact h1 j hj
  have e2 : (walk p).any (V.says x) = false := by
    rw [List.any_eq_false]
    intro q hq
    obtain ⟨j, hj, rfl⟩ := List.getElem_of_mem hq
    rw [h2 j hj]
    decide
  rw [e1, e2]; rfl
set_option maxHeartbeats 4000000 in
set_option maxRecDepth 100000 in
theorem roccurs_any (p : Pr) (a1 : Option Addr) (c1 : Nat) (a2 : Option Addr) (c2 : Nat) (x : ByteArray) (hok : OkP p) (w : World) (hK : PrIn w p a1 a2) :
    Calls Tryd.prog 45 #[prV p a1 c1 a2 c2, .string x] w fun e' w' => e' = .returned (.bool (occurs p x)) ∧ Below w.heap.size w w' := by
  have hw := below_box w (prO p a1 c1 a2 c2)
  have HW := Lib.hid hw
  have HBL := Lib.hid (fun w' hb => proc_later (w := w) (w' := w') (p := p) (a1 := a1) (a2 := a2) (c1 := c1) (c2 := c2) hb)
  have HKK := Lib.hid hK
  have HC := Lib.hid (fun w hK => rwalk_any p a1 a2 c1 c2 hok.body hok.bodyLen w hK)
  have hpl := hok.params
  have hn : (walk p).length ≤ 401 := by unfold walk; rw [List.length_take]; omega
  have S1 : Hid (∀ k (h : k < p.params.length), p.params[k].name = x → occurs p x = true) := fun k h hx => occurs_par h hx
  have S2 : Hid (∀ k (h : k < (walk p).length), V.says x (walk p)[k] = true → occurs p x = true) := fun k h hx => occurs_walk h hx
  have S3 : Hid ((∀ j (h : j < p.params.length), ¬ p.params[j].name = x) → (∀ j (h : j < (walk p).length), V.says x (walk p)[j] = false) → occurs p x = false) := fun h1 h2 => occurs_no h1 h2
  obtain ⟨g, hg⟩ : ∃ g, p.params.length = g := ⟨_, rfl⟩
  have HL := Lib.hid hg
  unfold prV prO at *
  rw [hg] at HW HBL hpl HC ⊢
  clear hw hK hok hg
  go_enter Tryd.func45, Tryd.ntmps45
  go_wp2_with fail
  go_loopw [5] (fun s5 wr => ∃ k : Nat, k ≤ g ∧ s5 = .int .i64 k ∧ Hid (∀ j (h : j < p.params.length), j < k → ¬ p.params[j].name = x) ∧ Hid (Below (w.alloc (.cells #[.string p.name, .slice a1 g c1, .slice a2 p.body.length c2] 25)).heap.size (w.alloc (.cells #[.string p.name, .slice a1 g c1, .slice a2 p.body.length c2] 25)) wr)) (fun s5 _ => g - (intOf s5).toNat)
  case atStart => exact ⟨0, Nat.zero_le _, rfl, fun j _ h => absurd h (Nat.not_lt_zero _), Below.refl _ _⟩
  case round =>
    obtain ⟨k, hk, rfl, HX, HB⟩ := hrel
    obtain ⟨c0', c1', c2'⟩ := HBL.out _ HB.out
    have HBB := Lib.hid (below_2 HW.out HB.out)
    by_cases hlt : k < g
    · have hlx : k < p.params.length := by rw [HL.out]; exact hlt
      obtain ⟨b3, i3, rfl, hc⟩ := (HKK.out.below HBB.out).params.open hlx
      obtain ⟨f0, f1⟩ := hc k hlx
      have HS1 := Lib.hid (S1.out k hlx)
      have HN : Hid (¬ p.params[k].name = x → ∀ j (h : j < p.params.length), j < k + 1 → ¬ p.params[j].name = x) := by
        intro hne j h hj
        by_cases hjk : j = k
        · subst hjk; exact hne
        · exact HX.out j h (by omega)
      generalize p.params[k] = q at f0 f1 HS1 HN
      by_cases hx : q.name = x
      · have hb := eql_yes hx
        have HV := Lib.hid (HS1.out hx)
        clear hc hx
        go_wp2_with fail
        go_ret
        exact ⟨ret_bool HV.out.symm, HBB.out⟩
      · have hb := eql_no hx
        have HV := Lib.hid (HN.out hx)
        clear hc hx
        go_wp2_with fail
        go_roundw
        case rel => exact ⟨k + 1, by omega, by go_num, HV.out, HB.out⟩
        case measure => simp [intOf]; omega
    · have HN : Hid (∀ j (h : j < p.params.length), ¬ p.params[j].name = x) := fun j h => HX.out j h (by have := HL.out; omega)
      go_wp2_with fail
      refine (HC.out _ (HKK.out.below HBB.out).body).mono ?_; rintro e w2 ⟨p3, q3, l', rfl, ho, hi, hv, hb2⟩
      have HO := Lib.hid ho
      have HW2 := Lib.hid hv
      have hln : l'.length ≤ 401 := by rw [← vs_len, hv]; exact hn
      have HV : Hid (Below w.heap.size w w2) := below_2 HBB.out hb2
      clear ho hi hv hb2 c0' c1' c2'
      go_wp2_with fail
      go_loopw [7] (fun s7 w3 => ∃ k : Nat, k ≤ l'.length ∧ s7 = .int .i64 k ∧ Hid (∀ j (h : j < (walk p).length), j < k → V.says x (walk p)[j] = false) ∧ w3 = w2) (fun s7 _ => l'.length - (intOf s7).toNat)
      case atStart => exact ⟨0, Nat.zero_le _, rfl, fun j _ h => absurd h (Nat.not_lt_zero _), rfl⟩
      case round =>
        obtain ⟨k2, hk2, rfl, HX2, rfl⟩ := hrel
        by_cases hlt2 : k2 < l'.length
        · obtain ⟨g3, rfl, hcell⟩ := visit_cells HO.out hlt2
          have hlw : k2 < (walk p).length := by rw [← HW2.out, vs_len]; exact hlt2
          have hvk : (walk p)[k2] = (l'[k2]).v := by simp only [← HW2.out, vs, List.getElem_map]
          have HS2 := Lib.hid (S2.out k2 hlw)
          have HN2 : Hid (V.says x (walk p)[k2] = false → ∀ j (h : j < (walk p).length), j < k2 + 1 → V.says x (walk p)[j] = false) := by
            intro hne j h hj
            by_cases hjk : j = k2
            · subst hjk; exact hne
            · exact HX2.out j h (by omega)
          rw [hvk] at HS2 HN2
          generalize l'[k2] = y at hcell HS2 HN2
          clear hvk hlw
          cases y with
          | st s d a5 c5 a6 c6 a7 c7 a8 c8 =>
            have f0 : wr.cell? ⟨g3, k2 * 20, none⟩ = some (.bool true) := hcell 0 (by omega)
            have f2 : wr.cell? ⟨g3, k2 * 20 + 2, none⟩ = some (.string s.name) := hcell 2 (by omega)
            clear hcell
            by_cases hx : s.name = x
            · have hb := eql_yes hx
              have HV2 := Lib.hid (HS2.out (by show V.says x (.st s d) = true; unfold V.says; exact decide_eq_true hx))
              clear hx
              go_wp2_with fail
              go_ret
              exact ⟨ret_bool HV2.out.symm, HV.out⟩
            · have hb := eql_no hx
              have HV2 := Lib.hid (HN2.out (by show V.says x (.st s d) = false; unfold V.says; exact decide_eq_false hx))
              clear hx
              go_wp2_with fail
              go_roundw
              case rel => exact ⟨k2 + 1, by omega, by go_num, HV2.out, trivial⟩
              case measure => simp [intOf]; omega
          | ex e r a5 c5 =>
            have f0 : wr.cell? ⟨g3, k2 * 20, none⟩ = some (.bool false) := hcell 0 (by omega)
            have f15 : wr.cell? ⟨g3, k2 * 20 + 15, none⟩ = some (.int .i64 e.op) := hcell 15 (by omega)
            have f17 : wr.cell? ⟨g3, k2 * 20 + 17, none⟩ = some (.string e.s) := hcell 17 (by omega)
            clear hcell
            by_cases h3 : e.op = 3
            · have b3 : (e.op == 3) = true := beq_iff_eq.2 h3
              by_cases hx : e.s = x
              · have hb := eql_yes hx
                have HV2 := Lib.hid (HS2.out (by show V.says x (.ex e r) = true; unfold V.says; simp [h3, hx]))
                clear hx h3
                go_wp2_with fail
                go_ret
                exact ⟨ret_bool HV2.out.symm, HV.out⟩
              · have hb := eql_no hx
                have HV2 := Lib.hid (HN2.out (by show V.says x (.ex e r) = false; unfold V.says; simp [hx]))
                clear hx h3
                go_wp2_with fail
                go_roundw
                case rel => exact ⟨k2 + 1, by omega, by go_num, HV2.out, trivial⟩
                case measure => simp [intOf]; omega
            · have b3 : (e.op == 3) = false := beq_eq_false_iff_ne.2 h3
              have HV2 := Lib.hid (HN2.out (by show V.says x (.ex e r) = false; unfold V.says; simp [h3]))
              clear h3
              go_wp2_with fail
              go_roundw
              case rel => exact ⟨k2 + 1, by omega, by go_num, HV2.out, trivial⟩
              case measure => simp [intOf]; omega
        · have HV2 : Hid (occurs p x = false) := S3.out HN.out (fun j h => HX2.out j h (by rw [← HW2.out, vs_len] at h; omega))
          go_wp2_with fail
          go_ret
          exact ⟨ret_bool HV2.out.symm, HV.out⟩
end Go.Proofs.YtgjnddjpinhkgaaDoor.A
namespace Go.Proofs.YtgjnddjpinhkgaaDoor.A
open Go.RowKit
open L (Str isName prt size_len below_2 below_box ret_bool ret_int eql_eq bytes_eq)
/-! ### statements in rows -/
theorem info_s : (Tryd.prog.info? 56).map (fun i => (i.zero, i.size, i.bytes)) = some (some (.agg #[.int .i64 0, .string ⟨#[]⟩, .int .i64 0, .int .i64 0, .int .i64 0, .string ⟨#[]⟩, .slice none 0 0, .int .i64 0, .int .i64 0, .string ⟨#[]⟩, .slice none 0 0, .slice none 0 0, .slice none 0 0]), 13, 192) := by kernel_rfl
def kS : RowK SX where
  f := fun x => [.int .i64 x.s.op, .string x.s.name, .int .i64 x.s.mx, .int .i64 x.s.a.op, .int .i64 x.s.a.n, .string x.s.a.s, .slice x.a1 x.s.a.args.length x.c1, .int .i64 x.s.b.op, .int .i64 x.s.b.n, .string x.s.b.s, .slice x.a2 x.s.b.args.length x.c2, .slice x.a3 x.s.body.length x.c3, .slice x.a4 x.s.els.length x.c4]
  size := 13
  bytes := 192
  t := 23
  e := 56
  z := .agg #[.int .i64 0, .string ⟨#[]⟩, .int .i64 0, .int .i64 0, .int .i64 0, .string ⟨#[]⟩, .slice none 0 0, .int .i64 0, .int .i64 0, .string ⟨#[]⟩, .slice none 0 0, .slice none 0 0, .slice none 0 0]
  inn := fun Z w x => KidsF Z w x.a1 x.s.a.args ∧ KidsF Z w x.a2 x.s.b.args ∧ BodiesF Z w x.a3 x.s.body ∧ BodiesF Z w x.a4 x.s.els
  und := Tryd.underlying23
  info := info_s
  len := fun _ => rfl
  one := fun x u hu => by simp at hu; rcases hu with rfl | rfl | rfl | rfl | rfl | rfl | rfl | rfl | rfl | rfl | rfl | rfl | rfl <;> rfl
  pos := by decide
  zs := rfl
  small := by decide
  next := fun h hs => ⟨KidsF.next h.1 hs, KidsF.next h.2.1 hs, BodiesF.next h.2.2.1 hs, BodiesF.next h.2.2.2 hs⟩
theorem sts_of {W : World} {b : Nat} : ∀ (l : List SX) (i : Nat), (∀ j (h : j < l.length) r, r < 13 → W.cell? ⟨b, i + j * 13 + r, none⟩ = (kS.f l[j])[r]?) → (∀ x ∈ l, Kids W x.a1 x.s.a.args ∧ Kids W x.a2 x.s.b.args ∧ Bodies W x.a3 x.s.body ∧ Bodies W x.a4 x.s.els) → StsAt W (l.map SX.s) b i
  | [], _, _, _ => by rw [List.map_nil, StsAt]; trivial
  | x :: l, i, hc, hk => by
    rw [List.map_cons, StsAt]
    refine ⟨?_, sts_of l (i + 13) (fun j hj r hr => ?_) fun y hy => hk y (List.mem_cons_of_mem _ hy)⟩
    · have hh : ∀ r, r < 13 → W.cell? ⟨b, i + r, none⟩ = (kS.f x)[r]? := fun r hr => by
        have := hc 0 (by simp) r hr
        simpa using this
      have h0 := hh 0 (by decide)
      have h1 := hh 1 (by decide)
      have h2 := hh 2 (by decide)
      have h3 := hh 3 (by decide)
      have h4 := hh 4 (by decide)
      have h5 := hh 5 (by decide)
      have h6 := hh 6 (by decide)
      have h7 := hh 7 (by decide)
      have h8 := hh 8 (by decide)
      have h9 := hh 9 (by decide)
      have h10 := hh 10 (by decide)
      have h11 := hh 11 (by decide)
      have h12 := hh 12 (by decide)
      obtain ⟨g1, g2, g3, g4⟩ := hk x List.mem_cons_self
      obtain ⟨⟨o, nm, mx, ⟨oa, na, sa, la⟩, ⟨ob, nb, sb, lb⟩, bd, el⟩, a1, c1, a2, c2, a3, c3, a4, c4⟩ := x
      rw [StAt]
      refine ⟨h0, h1, h2, ?_, ?_, ⟨a3, c3, h11, g3⟩, ⟨a4, c4, h12, g4⟩⟩
      · rw [ExAt]; exact ⟨h3, h4, h5, a1, c1, h6, g1⟩
      · rw [ExAt]; exact ⟨h7, h8, h9, a2, c2, h10, g2⟩
    · have := hc (j + 1) (by simpa using hj) r hr
      rw [show i + 13 + j * 13 + r = i + (j + 1) * 13 + r by omega]
      simpa using this
theorem Own1.bodies {w : World} {b0 : Nat} {Z : Nat → Prop} {p : Option Addr} {q : Nat} {l : List SX} (h : Own1 kS w b0 Z (.slice p l.length q) l) : BodiesF Z w p (l.map SX.s) := by
  by_cases h0 : l = []
  · left; rw [h0]; rfl
  · have hpos : 0 < l.length := List.length_pos_iff.2 h0
    obtain ⟨g, rfl, hz, _⟩ := h.cell hpos
    refine Or.inr ⟨g, 0, rfl, sts_of l 0 (fun j hj r hr => ?_) fun x hx => ?_⟩
    · obtain ⟨g2, hg, hz2, hc⟩ := h.cell hj
      cases hg
      have hr2 : r < (kS.f l[j]).length := by rw [kS.len]; exact hr
      have hcr := hc r hr
      rw [List.getElem?_eq_getElem hr2] at hcr ⊢
      rw [Nat.zero_add]
      exact (hollow_cell Z w _ _ _).2 ⟨hz, hcr⟩
    · exact kS.next (Z' := Z) (h.each x hx) ⟨fun _ _ _ => rfl, fun k hk => Or.inl (Or.inl hk)⟩
theorem renB_map (f t : ByteArray) : ∀ l : List St, renB f t l = l.map (renS f t)
  | [] => rfl
  | e :: r => by rw [renB, List.map_cons, renB_map f t r]
theorem renB_len (f t : ByteArray) (l : List St) : (renB f t l).length = l.length := by rw [renB_map, List.length_map]
theorem cB_len : ∀ l : List St, l.length ≤ cB l
  | [] => Nat.zero_le _
  | e :: r => by
    have := cB_len r
    have h := cS_parts e
    rw [cB, List.length_cons]
    omega
/-- statements that a call made, in blocks of its own -/
def GivesS (w : World) (x : List St) (e' : Ending) (w' : World) : Prop := ∃ p q, e' = .returned (.slice p x.length q) ∧ BodiesF (fun k => k < w.heap.size) w' p x ∧ Below w.heap.size w w'
end Go.Proofs.YtgjnddjpinhkgaaDoor.A
namespace Go.Proofs.YtgjnddjpinhkgaaDoor.A
open Go.RowKit
open L (Str isName prt size_len below_2 below_box below_drew ret_bool ret_int eql_eq bytes_eq)
theorem stO_cells (w : World) (s : St) (a1 : Option Addr) (c1 : Nat) (a2 : Option Addr) (c2 : Nat) (a3 : Option Addr) (c3 : Nat) (a4 : Option Addr) (c4 : Nat) : StCells (w.alloc (stO s a1 c1 a2 c2 a3 c3 a4 c4)) s w.heap.size 0 a1 c1 a2 c2 a3 c3 a4 c4 := by
  unfold stO
  exact ⟨by go_simp, by go_simp, by go_simp, by go_simp, by go_simp, by go_simp, by go_simp, by go_simp, by go_simp, by go_simp, by go_simp, by go_simp, by go_simp⟩
end Go.Proofs.YtgjnddjpinhkgaaDoor.A
namespace Go.Proofs.YtgjnddjpinhkgaaDoor.A
open Go.RowKit
open L (Str isName prt size_len below_2 below_box ret_bool ret_int eql_eq bytes_eq isName_any)
set_option maxHeartbeats 8000000 in
set_option maxRecDepth 100000 in
theorem rparams_any (l : List Pm) (a : Option Addr) (c : Nat) (hl : l.length ≤ 1000000000000000) (hns : ∀ j (h : j < l.length), l[j].name.size ≤ 1000000000000000) (w : World) (hK : PmsAt w a l) :
    Calls Tryd.prog 69 #[.slice a l.length c] w fun e' w' => e' = .returned (.int .i64 (parE l)) ∧ Below w.heap.size w w' := by
  have HK := Lib.hid hK
  have HNS := Lib.hid hns
  have hpe : parE l = if 6 < l.length then 2 else parF [] l := rfl
  obtain ⟨R, hR⟩ : ∃ R, parE l = R := ⟨_, rfl⟩
  rw [hR] at hpe ⊢
  have HP : Hid (l.length ≤ 6 → parF ((l.take 0).map Pm.name) (l.drop 0) = R) := fun h => by rw [hpe, if_neg (by omega)]; rfl
  have HP2 : Hid (6 < l.length → R = 2) := fun h => by rw [hpe, if_pos h]
  obtain ⟨m, hm⟩ : ∃ m, l.length = m := ⟨_, rfl⟩
  have HL := Lib.hid hm
  rw [hm] at hl HP HP2 ⊢
  clear hm hR hK hpe hns
  by_cases h6 : 6 < m
  · have HV : Hid (R = 2) := HP2.out h6
    have b6 : decide (6 < (m : Int)) = true := decide_eq_true (by omega)
    clear h6
    go_enter Tryd.func69, Tryd.ntmps69
    go_wp2_with fail
    go_ret
    exact ⟨ret_int HV.out.symm, Below.refl _ _⟩
  · have HR := Lib.hid (HP.out (by omega))
    have b6 : decide (6 < (m : Int)) = false := decide_eq_false (by omega)
    clear HP HP2
    go_enter Tryd.func69, Tryd.ntmps69
    go_wp2_with fail
    go_loopw [3] (fun s3 wr => ∃ k : Nat, k ≤ m ∧ s3 = .int .i64 k ∧ Hid (parF ((l.take k).map Pm.name) (l.drop k) = R) ∧ Hid (Below w.heap.size w wr)) (fun s3 _ => m - (intOf s3).toNat)
    case atStart => exact ⟨0, Nat.zero_le _, rfl, HR, Below.refl _ _⟩
    case round =>
      obtain ⟨k, hk, rfl, HX, HB⟩ := hrel
      by_cases hlt : k < m
      · have hlx : k < l.length := by rw [HL.out]; exact hlt
        have hx := HX.out
        rw [parF_drop hlx] at hx
        obtain ⟨b3, i3, rfl, hcc⟩ := (HK.out.below HB.out).open hlx
        obtain ⟨f0, f1⟩ := hcc k hlx
        have HCC : Hid (∀ j (h : j < l.length), wr.cell? ⟨b3, i3 + j * 2, none⟩ = some (.string l[j].name)) := fun j h => (hcc j h).1
        have HI : Hid (∀ w, Calls Tryd.prog 44 #[.string l[k].name] w fun e' w' => e' = .returned (.bool (nam l[k].name)) ∧ Below w.heap.size w w') := fun w => isName_any l[k].name (by have := HNS.out k hlx; omega) w
        have HG0 := Lib.hid f0
        have HG1 := Lib.hid f1
        have hy : ∀ j, j < k → ∀ h : j < l.length, l[j].name = l[k].name → (l.take k).any (fun q => decide (q.name = l[k].name)) = true := by
          intro j hj h hh
          rw [List.any_eq_true]
          refine ⟨l[j], ?_, decide_eq_true hh⟩
          rw [List.mem_take_iff_getElem]
          exact ⟨j, by omega, rfl⟩
        have hn : (∀ j, j < k → ∀ h : j < l.length, ¬ l[j].name = l[k].name) → (l.take k).any (fun q => decide (q.name = l[k].name)) = false := by
          intro hh
          rw [List.any_eq_false]
          intro q hq
          obtain ⟨j, hj, rfl⟩ := List.mem_take_iff_getElem.1 hq
          rw [decide_eq_true_eq]
          exact hh j (by omega) (by omega)
        have HY := Lib.hid hy
        have HN := Lib.hid hn
        clear hy hn
        generalize (l.take k).any (fun q => decide (q.name = l[k].name)) = y at HY HN hx
        obtain ⟨q, hq⟩ : ∃ q, l[k] = q := ⟨_, rfl⟩
        rw [hq] at f0 f1 HI HG0 HG1 HY HN hx
        clear hcc hq
        obtain ⟨nm, hnm⟩ : ∃ v, nam q.name = v := ⟨_, rfl⟩
        rw [hnm] at HI hx
        clear hnm
        cases nm
        · have HV : Hid (R = 7) := by show _ = _; rw [← hx, if_pos rfl]
          clear hx f1
          go_wp2_with fail
          refine (HI.out _).mono ?_; rintro e w2 ⟨rfl, hb2⟩
          have HB2 := Lib.hid (below_2 HB.out hb2)
          clear hb2
          go_wp2_with fail
          go_ret
          exact ⟨ret_int HV.out.symm, HB2.out⟩
        · rw [if_neg (by decide)] at hx
          clear f1
          go_wp2_with fail
          refine (HI.out _).mono ?_; rintro e w2 ⟨rfl, hb2⟩
          have HB2 := Lib.hid (below_2 HB.out hb2)
          have g0 := (hb2.cell (block_lt_of_cell HG0.out)).trans HG0.out
          have g1 := (hb2.cell (block_lt_of_cell HG1.out)).trans HG1.out
          have HC2 : Hid (∀ j (h : j < l.length), w2.cell? ⟨b3, i3 + j * 2, none⟩ = some (.string l[j].name)) := fun j h => (hb2.cell (block_lt_of_cell (HCC.out j h))).trans (HCC.out j h)
          clear hb2 f0
          by_cases hty : q.ty < 1 ∨ 3 < q.ty
          · have HV : Hid (R = 10) := by show _ = _; rw [← hx, if_pos hty]
            clear hx g0
            obtain ⟨t1, ht1⟩ : ∃ v, decide (q.ty < 1) = v := ⟨_, rfl⟩
            cases t1
            · have t3 : decide (3 < q.ty) = true := decide_eq_true (by have := of_decide_eq_false ht1; omega)
              clear hty
              go_wp2_with fail
              go_ret
              exact ⟨ret_int HV.out.symm, HB2.out⟩
            · clear hty
              go_wp2_with fail
              go_ret
              exact ⟨ret_int HV.out.symm, HB2.out⟩
          · rw [if_neg hty] at hx
            have t1 : decide (q.ty < 1) = false := decide_eq_false (by omega)
            have t3 : decide (3 < q.ty) = false := decide_eq_false (by omega)
            have HXX := Lib.hid hx
            have HGG := Lib.hid g0
            clear hty hx g0
            go_wp2_with fail
            go_loopw [4] (fun s4 w3 => ∃ j : Nat, j ≤ k ∧ s4 = .int .i64 j ∧ Hid (∀ i, i < j → ∀ h : i < l.length, ¬ l[i].name = q.name) ∧ Hid (Below w2.heap.size w2 w3)) (fun s4 _ => k - (intOf s4).toNat)
            case atStart => exact ⟨0, Nat.zero_le _, rfl, fun i h => absurd h (Nat.not_lt_zero _), Below.refl _ _⟩
            case round =>
              obtain ⟨j, hj, rfl, HJ, HB3⟩ := hrel
              have HBB := Lib.hid (below_2 HB2.out HB3.out)
              by_cases hjk : j < k
              · have hjl : j < l.length := by omega
                have e0 := (HB3.out.cell (block_lt_of_cell (HC2.out j hjl))).trans (HC2.out j hjl)
                have g0 := (HB3.out.cell (block_lt_of_cell HGG.out)).trans HGG.out
                have HYY := Lib.hid (HY.out j hjk hjl)
                have HJN : Hid (¬ l[j].name = q.name → ∀ i, i < j + 1 → ∀ h : i < l.length, ¬ l[i].name = q.name) := by
                  intro hne i hi h
                  by_cases hij : i = j
                  · subst hij; exact hne
                  · exact HJ.out i (by omega) h
                generalize l[j] = r at e0 HYY HJN
                clear g1
                by_cases hsm : r.name = q.name
                · have hb := eql_yes hsm
                  have HV : Hid (R = 8) := by show _ = _; rw [← HXX.out, if_pos (HYY.out hsm)]
                  clear hsm
                  go_wp2_with fail
                  go_quiet (fail)
                  go_wp2_with fail
                  go_ret
                  exact ⟨ret_int HV.out.symm, below_2 HBB.out (below_dn _ _)⟩
                · have hb := eql_no hsm
                  have HV := Lib.hid (HJN.out hsm)
                  clear hsm
                  go_wp2_with fail
                  go_quiet (fail)
                  go_wp2_with fail
                  go_roundw
                  case rel => exact ⟨j + 1, by omega, by go_num, HV.out, below_2 HB3.out (below_dn _ _)⟩
                  case measure => simp [intOf]; omega
              · have hy0 := HN.out (fun i hi h => HJ.out i (by omega) h)
                have hx := HXX.out
                rw [if_neg (by rw [hy0]; decide)] at hx
                have HNX := Lib.hid hx
                clear hx g1
                go_wp2_with fail
                go_roundw
                case rel => exact ⟨k + 1, by omega, by go_num, HNX, HBB⟩
                case measure => simp [intOf]; omega
      · have HV : Hid (R = 0) := by
          show _ = _
          rw [← HX.out, List.drop_of_length_le (by rw [HL.out]; omega), parF]
        go_wp2_with fail
        go_ret
        exact ⟨ret_int HV.out.symm, HB.out⟩
end Go.Proofs.YtgjnddjpinhkgaaDoor.A
namespace Go.Proofs.YtgjnddjpinhkgaaDoor.A
open Go.RowKit
open L (Str isName prt size_len below_2 below_box ret_bool ret_int eql_eq bytes_eq isName_any)
/-- what the reference's stmt returns -/
def RStmt : Prop := ∀ (s : St) (a1 : Option Addr) (c1 : Nat) (a2 : Option Addr) (c2 : Nat) (a3 : Option Addr) (c3 : Nat) (a4 : Option Addr) (c4 : Nat) (d : Nat), d ≤ 1000000 → okS s → ∀ w0 : World, StKids w0 s a1 a2 a3 a4 →
    Calls Tryd.prog 70 #[stC s a1 c1 a2 c2 a3 c3 a4 c4, .int .i64 (d : Int)] w0 fun e' w' => e' = .returned (.int .i64 (stE s d)) ∧ Below w0.heap.size w0 w'
def VOk (n : Nat) : V → Prop
  | .st s d => okS s ∧ d ≤ n
  | .ex _ _ => True
mutual
theorem preE_ok (n : Nat) : ∀ (e : Ex) (r : Bool), ∀ v ∈ preE e r, VOk n v
  | .mk o m s l, r, v, h => by
    rw [preE] at h
    rcases List.mem_cons.1 h with rfl | h
    · trivial
    · exact preEs_ok n l v h
theorem preEs_ok (n : Nat) : ∀ (l : List Ex), ∀ v ∈ preEs l, VOk n v
  | [], v, h => by rw [preEs] at h; cases h
  | e :: r, v, h => by
    rw [preEs] at h
    rcases List.mem_append.1 h with h | h
    · exact preE_ok n e false v h
    · exact preEs_ok n r v h
end
theorem preR_ok (n : Nat) (e : Ex) : ∀ v ∈ preR e, VOk n v := by
  intro v h
  unfold preR at h
  split at h
  · cases h
  · exact preE_ok n e true v h
mutual
theorem preS_ok (n : Nat) : ∀ (s : St) (d : Nat), okS s → d + cS s ≤ n → ∀ v ∈ preS s d, VOk n v
  | .mk o nm mx a b bd el, d, hok, hd, v, h => by
    have hp := hok
    rw [okS] at hp
    obtain ⟨_, _, _, _, _, _, h1, _, h2⟩ := hp
    rw [cS] at hd
    rw [preS] at h
    rcases List.mem_cons.1 h with rfl | h
    · exact ⟨hok, by omega⟩
    rcases List.mem_append.1 h with h | h
    · rcases List.mem_append.1 h with h | h
      · rcases List.mem_append.1 h with h | h
        · exact preR_ok n a v h
        · exact preR_ok n b v h
      · exact preB_ok n bd (d + 1) h1 (by omega) v h
    · exact preB_ok n el (d + 1) h2 (by omega) v h
theorem preB_ok (n : Nat) : ∀ (l : List St) (d : Nat), okB l → d + cB l ≤ n → ∀ v ∈ preB l d, VOk n v
  | [], d, _, _, v, h => by rw [preB] at h; cases h
  | s :: r, d, hok, hd, v, h => by
    rw [okB] at hok
    rw [cB] at hd
    rw [preB] at h
    rcases List.mem_append.1 h with h | h
    · exact preS_ok n s d hok.1 (by omega) v h
    · exact preB_ok n r d hok.2 (by omega) v h
end
theorem walk_ok {p : Pr} (hok : okB p.body) (hs : cB p.body ≤ 900000) : ∀ v ∈ walk p, VOk 1000000 v := fun v h =>
  preB_ok 1000000 p.body 1 hok (by omega) v (List.mem_of_mem_take (by unfold walk at h; exact h))
theorem firstE_drop {l : List V} {k : Nat} (h : k < l.length) : firstE (l.drop k) = match l[k] with | .st s d => if stE s d ≠ 0 then stE s d else firstE (l.drop (k + 1)) | .ex _ _ => firstE (l.drop (k + 1)) := by
  rw [List.drop_eq_getElem_cons h]
  cases l[k] <;> rfl
set_option maxHeartbeats 8000000 in
set_option maxRecDepth 100000 in
theorem rvalidate_any (hst : RStmt) (p : Pr) (a1 a2 : Option Addr) (c1 c2 : Nat) (hok : OkP p) (hsz : cB p.body ≤ 900000) (w : World) (hK : PrIn w p a1 a2) :
    Calls Tryd.prog 35 #[prV p a1 c1 a2 c2] w fun e' w' => e' = .returned (.int .i64 (valE p)) ∧ Below w.heap.size w w' := by
  have hw := below_box w (prO p a1 c1 a2 c2)
  have HBL := Lib.hid (fun w' hb => proc_later (w := w) (w' := w') (p := p) (a1 := a1) (a2 := a2) (c1 := c1) (c2 := c2) hb)
  have HI : Hid (∀ w, Calls Tryd.prog 44 #[.string p.name] w fun e' w' => e' = .returned (.bool (nam p.name)) ∧ Below w.heap.size w w') := fun w => isName_any p.name (by have := hok.name; omega) w
  have HPE := Lib.hid (fun w' h => rparams_any p.params a1 c1 hok.params hok.each w' h)
  have HC := Lib.hid (fun w' hK => rwalk_any p a1 a2 c1 c2 hok.body hok.bodyLen w' hK)
  have HVO := Lib.hid (walk_ok hok.body hsz)
  have HST := Lib.hid hst
  have HK := Lib.hid hK
  have HW := Lib.hid hw
  have hv := val_cases p
  have hn : (walk p).length ≤ 401 := by unfold walk; rw [List.length_take]; omega
  have hnn : nodes p = (walk p).length := rfl
  rw [hnn] at hv
  generalize valE p = R at hv ⊢
  have HV := Lib.hid hv
  clear hv hw hK hok hsz hst hnn
  unfold prO at HBL HW
  unfold prV at *
  generalize nam p.name = nm at HI HV
  cases nm
  · have HR : Hid (R = 7) := by show _ = _; rw [HV.out, if_pos rfl]
    go_enter Tryd.func35, Tryd.ntmps35
    go_wp2_with fail
    refine (HI.out _).mono ?_; rintro e w2 ⟨rfl, hb2⟩
    have HB2 := Lib.hid (below_2 HW.out hb2)
    clear hb2
    go_wp2_with fail
    go_ret
    exact ⟨ret_int HR.out.symm, HB2.out⟩
  · go_enter Tryd.func35, Tryd.ntmps35
    go_wp2_with fail
    refine (HI.out _).mono ?_; rintro e w2 ⟨rfl, hb2⟩
    have HBX := Lib.hid hb2
    clear hb2
    obtain ⟨j0, j1, j2⟩ := HBL.out _ HBX.out
    go_wp2_with fail
    refine (HPE.out _ (HK.out.below (below_2 HW.out HBX.out)).params).mono ?_; rintro e w3 ⟨rfl, hb3⟩
    have HBX := Lib.hid (below_2 HBX.out hb3)
    clear hb3 j0 j1 j2
    by_cases hp : parE p.params = 0
    · have bp : (parE p.params != 0) = false := by rw [bne_eq_false_iff_eq]; exact hp
      have HR2 : Hid (R = if firstE (walk p) ≠ 0 then firstE (walk p) else if 400 < (walk p).length then 2 else 0) := by show _ = _; rw [HV.out, if_neg (by decide), if_neg (fun h => h hp)]
      obtain ⟨j0, j1, j2⟩ := HBL.out _ HBX.out
      have HC2 := Lib.hid (HC.out w3 (HK.out.below (below_2 HW.out HBX.out)).body)
      clear hp
      go_wp2_with fail
      refine HC2.out.mono ?_; rintro e w4 ⟨p3, q3, l', rfl, ho, hi, hvv, hb4⟩
      have HO := Lib.hid ho
      have HIn := Lib.hid hi
      have HWK := Lib.hid hvv
      have HB4 := Lib.hid (below_2 (below_2 HW.out HBX.out) hb4)
      have hlw : l'.length = (walk p).length := by rw [← vs_len, hvv]
      have HLW := Lib.hid hlw
      have hln : l'.length ≤ 401 := by rw [hlw]; exact hn
      have hz4 := hb4.size
      have HI4 : Hid (∀ x ∈ l', x.In w4) := fun x hx => (hi x hx).below hb4
      clear ho hi hvv hb4 hlw j0 j1 j2 bp
      go_wp2_with fail
      go_loopw [5] (fun s5 wr => ∃ k : Nat, k ≤ l'.length ∧ s5 = .int .i64 k ∧ Hid (firstE ((walk p).drop k) = firstE (walk p)) ∧ Hid (Below w4.heap.size w4 wr)) (fun s5 _ => l'.length - (intOf s5).toNat)
      case atStart => exact ⟨0, Nat.zero_le _, rfl, rfl, Below.refl _ _⟩
      case round =>
        obtain ⟨k, hk, rfl, HX, HBr⟩ := hrel
        have HBB := Lib.hid (below_2 HB4.out HBr.out)
        by_cases hlt : k < l'.length
        · obtain ⟨g3, rfl, hcell⟩ := visit_cells HO.out hlt
          have hlx : k < (walk p).length := by rw [← HLW.out]; exact hlt
          have hvk : (walk p)[k] = (l'[k]).v := by simp only [← HWK.out, vs, List.getElem_map]
          have hx := HX.out
          rw [firstE_drop hlx, hvk] at hx
          have hin := HI4.out _ (List.getElem_mem hlt)
          have hvo := HVO.out _ (List.getElem_mem hlx)
          rw [hvk] at hvo
          have hg3 : g3 < w4.heap.size := by
            have h := hcell 0 (by omega)
            cases hh : l'[k] with
            | st s d a5 c5 a6 c6 a7 c7 a8 c8 => rw [hh] at h; exact block_lt_of_cell (show w4.cell? ⟨g3, k * 20 + 0, none⟩ = some (.bool true) from h)
            | ex e r a5 c5 => rw [hh] at h; exact block_lt_of_cell (show w4.cell? ⟨g3, k * 20 + 0, none⟩ = some (.bool false) from h)
          have hcr : ∀ r, r < 20 → wr.cell? ⟨g3, k * 20 + r, none⟩ = (l'[k]).cells[r]? := fun r hr => (HBr.out.cell (by exact hg3)).trans (hcell r hr)
          generalize l'[k] = y at hcr hx hin hvo
          clear hvk hcell
          cases y with
          | ex e r a5 c5 =>
            have f0 : wr.cell? ⟨g3, k * 20, none⟩ = some (.bool false) := hcr 0 (by omega)
            have HX2 : Hid (firstE ((walk p).drop (k + 1)) = firstE (walk p)) := hx
            clear hcr hx hin hvo
            go_wp2_with fail
            go_roundw
            case rel => exact ⟨k + 1, by omega, by go_num, HX2.out, HBr.out⟩
            case measure => simp [intOf]; omega
          | st s d a5 c5 a6 c6 a7 c7 a8 c8 =>
            have f0 : wr.cell? ⟨g3, k * 20, none⟩ = some (.bool true) := hcr 0 (by omega)
            have e0 : wr.cell? ⟨g3, k * 20 + 1, none⟩ = some (.int .i64 s.op) := hcr 1 (by omega)
            have e1 : wr.cell? ⟨g3, k * 20 + 1 + 1, none⟩ = some (.string s.name) := hcr 2 (by omega)
            have e2 : wr.cell? ⟨g3, k * 20 + 1 + 2, none⟩ = some (.int .i64 s.mx) := hcr 3 (by omega)
            have e3 : wr.cell? ⟨g3, k * 20 + 1 + 3, none⟩ = some (.int .i64 s.a.op) := hcr 4 (by omega)
            have e4 : wr.cell? ⟨g3, k * 20 + 1 + 4, none⟩ = some (.int .i64 s.a.n) := hcr 5 (by omega)
            have e5 : wr.cell? ⟨g3, k * 20 + 1 + 5, none⟩ = some (.string s.a.s) := hcr 6 (by omega)
            have e6 : wr.cell? ⟨g3, k * 20 + 1 + 6, none⟩ = some (.slice a5 s.a.args.length c5) := hcr 7 (by omega)
            have e7 : wr.cell? ⟨g3, k * 20 + 1 + 7, none⟩ = some (.int .i64 s.b.op) := hcr 8 (by omega)
            have e8 : wr.cell? ⟨g3, k * 20 + 1 + 8, none⟩ = some (.int .i64 s.b.n) := hcr 9 (by omega)
            have e9 : wr.cell? ⟨g3, k * 20 + 1 + 9, none⟩ = some (.string s.b.s) := hcr 10 (by omega)
            have e10 : wr.cell? ⟨g3, k * 20 + 1 + 10, none⟩ = some (.slice a6 s.b.args.length c6) := hcr 11 (by omega)
            have e11 : wr.cell? ⟨g3, k * 20 + 1 + 11, none⟩ = some (.slice a7 s.body.length c7) := hcr 12 (by omega)
            have e12 : wr.cell? ⟨g3, k * 20 + 1 + 12, none⟩ = some (.slice a8 s.els.length c8) := hcr 13 (by omega)
            have f14 : wr.cell? ⟨g3, k * 20 + 14, none⟩ = some (.int .i64 (d : Int)) := hcr 14 (by omega)
            have hkk : StKids wr.drew s a5 a6 a7 a8 := StKids.below (StKids.below hin HBr.out) (L.below_drew wr)
            have HSC := Lib.hid (HST.out s a5 c5 a6 c6 a7 c7 a8 c8 d hvo.2 hvo.1 wr.drew hkk)
            have hxx : (if stE s d ≠ 0 then stE s d else firstE ((walk p).drop (k + 1))) = firstE (walk p) := hx
            generalize stE s d = z at HSC hxx
            unfold stC at HSC
            clear hcr hx hin hvo hkk
            by_cases hz : z = 0
            · have bz : (z != 0) = false := by rw [bne_eq_false_iff_eq]; exact hz
              rw [if_neg (fun h => h hz)] at hxx
              have HX2 := Lib.hid hxx
              clear hz hxx
              go_wp2_with fail
              go_region_law (go_simp; go_at_call 70; refine HSC.out.mono ?_; rintro e' w5 ⟨rfl, hb5⟩; have HB5 := Lib.hid (below_2 (L.below_drew _) hb5); clear hb5)
              all_goals
                go_wp2_with fail
                go_roundw
                case rel => exact ⟨k + 1, by omega, by go_num, HX2.out, below_2 HBr.out HB5.out⟩
                case measure => simp [intOf]; omega
            · have bz : (z != 0) = true := bne_iff_ne.2 hz
              rw [if_pos hz] at hxx
              have HR : Hid (R = z) := by show _ = _; rw [HR2.out, ← hxx, if_pos hz]
              clear hz hxx
              go_wp2_with fail
              go_region_law (go_simp; go_at_call 70; refine HSC.out.mono ?_; rintro e' w5 ⟨rfl, hb5⟩; have HB5 := Lib.hid (below_2 (L.below_drew _) hb5); clear hb5)
              all_goals
                go_wp2_with fail
                go_ret
                exact ⟨ret_int HR.out.symm, below_2 HBB.out HB5.out⟩
        · have hx := HX.out
          rw [List.drop_of_length_le (by have := HLW.out; omega)] at hx
          have hf : firstE (walk p) = 0 := hx.symm
          have HR3 : Hid (R = if 400 < l'.length then 2 else 0) := by show _ = _; rw [HR2.out, if_neg (fun h => h hf), HLW.out]
          clear hx hf
          by_cases h4 : 400 < l'.length
          · have b4 : decide (400 < (l'.length : Int)) = true := decide_eq_true (by omega)
            have HR : Hid (R = 2) := by show _ = _; rw [HR3.out, if_pos h4]
            clear h4
            go_wp2_with fail
            go_ret
            exact ⟨ret_int HR.out.symm, HBB.out⟩
          · have b4 : decide (400 < (l'.length : Int)) = false := decide_eq_false (by omega)
            have HR : Hid (R = 0) := by show _ = _; rw [HR3.out, if_neg h4]
            clear h4
            go_wp2_with fail
            go_ret
            exact ⟨ret_int HR.out.symm, HBB.out⟩
    · have bp : (parE p.params != 0) = true := bne_iff_ne.2 hp
      have HR : Hid (R = parE p.params) := by show _ = _; rw [HV.out, if_neg (by decide), if_pos hp]
      have HB5 := Lib.hid (below_2 HW.out HBX.out)
      clear hp
      go_wp2_with fail
      go_ret
      exact ⟨ret_int HR.out.symm, HB5.out⟩
end Go.Proofs.YtgjnddjpinhkgaaDoor.A
namespace Go.Proofs.YtgjnddjpinhkgaaDoor.A
open Go.RowKit
open L (Str isName prt size_len below_2 below_box ret_bool ret_int eql_eq bytes_eq)
theorem info_p : (Tryd.prog.info? 40).map (fun i => (i.zero, i.size, i.bytes)) = some (some (.agg #[.string ⟨#[]⟩, .int .i64 0]), 2, 24) := by kernel_rfl
def kP : RowK Pm where
  f := fun x => [.string x.name, .int .i64 x.ty]
  size := 2
  bytes := 24
  t := 22
  e := 40
  z := .agg #[.string ⟨#[]⟩, .int .i64 0]
  inn := fun _ _ _ => True
  und := Tryd.underlying22
  info := info_p
  len := fun _ => rfl
  one := fun x u hu => by simp at hu; rcases hu with rfl | rfl <;> rfl
  pos := by decide
  zs := rfl
  small := by decide
  next := fun _ _ => trivial
theorem PmsAt.sub {w w' : World} (h : Sub w w') {a : Option Addr} {l : List Pm} (hk : PmsAt w a l) : PmsAt w' a l := by
  rcases hk with hk | ⟨b, i, ha, hk⟩
  · exact Or.inl hk
  · exact Or.inr ⟨b, i, ha, fun j hj => ⟨h _ _ _ (hk j hj).1, h _ _ _ (hk j hj).2⟩⟩
theorem PrIn.sub {w w' : World} (h : Sub w w') {p : Pr} {a1 a2 : Option Addr} (hk : PrIn w p a1 a2) : PrIn w' p a1 a2 := ⟨PmsAt.sub h hk.params, Bodies.sub h hk.body⟩
/-- a procedure in memory, in blocks that Z leaves out -/
def PrF (Z : Nat → Prop) (w : World) (p : Pr) (a1 a2 : Option Addr) : Prop := PrIn (hollow Z w) p a1 a2
theorem PrF.now {Z : Nat → Prop} {w : World} {p : Pr} {a1 a2 : Option Addr} (h : PrF Z w p a1 a2) : PrIn w p a1 a2 := PrIn.sub (hollow_now Z w) h
theorem PrF.next {Z Z' : Nat → Prop} {w w' : World} {p : Pr} {a1 a2 : Option Addr} (h : PrF Z w p a1 a2) (hs : Stays Z Z' w w') : PrF Z' w' p a1 a2 := PrIn.sub (hollow_next hs) h
theorem Own1.pms {w : World} {b0 : Nat} {Z : Nat → Prop} {p : Option Addr} {q : Nat} {l : List Pm} (h : Own1 kP w b0 Z (.slice p l.length q) l) : PmsAt (hollow Z w) p l := by
  by_cases h0 : l = []
  · exact Or.inl h0
  · obtain ⟨g, rfl, hz, _⟩ := h.cell (List.length_pos_iff.2 h0)
    refine Or.inr ⟨g, 0, rfl, fun j hj => ?_⟩
    obtain ⟨g2, hg, _, hc⟩ := h.cell hj
    cases hg
    have c0 := hc 0 (by decide)
    have c1 := hc 1 (by decide)
    rw [show j * kP.size + 0 = 0 + j * 2 by show j * 2 + 0 = _; omega] at c0
    rw [show j * kP.size + 1 = 0 + j * 2 + 1 by show j * 2 + 1 = _; omega] at c1
    exact ⟨(hollow_cell Z w _ _ _).2 ⟨hz, c0⟩, (hollow_cell Z w _ _ _).2 ⟨hz, c1⟩⟩
def renP (f t : ByteArray) (q : Pm) : Pm := ⟨swap f t q.name, q.ty⟩
theorem pms_take (f t : ByteArray) {l : List Pm} {k : Nat} (h : k < l.length) : (l.take (k + 1)).map (renP f t) = (l.take k).map (renP f t) ++ [renP f t l[k]] := by
  rw [List.take_succ_eq_append_getElem h, List.map_append]; rfl
end Go.Proofs.YtgjnddjpinhkgaaDoor.A
namespace Go.Proofs.YtgjnddjpinhkgaaDoor.A
open Go.RowKit
open L (Str isName prt size_len below_2 below_box ret_bool ret_int eql_eq bytes_eq)
/-- what Rename leaves: a procedure in memory and an error -/
def GivesRn (w : World) (r : Pr × Int) (e' : Ending) (w' : World) : Prop := ∃ p1 q1 p2 q2, e' = .returned (.tuple #[prV r.1 p1 q1 p2 q2, .int .i64 r.2]) ∧ PrIn w' r.1 p1 p2 ∧ r.1.params.length ≤ q1 ∧ Below w.heap.size w w'
theorem rename_1 {p : Pr} {f t : ByteArray} (h : valE p ≠ 0) : rename p f t = (noPr, 1) := by unfold rename; rw [if_pos h]
theorem rename_7 {p : Pr} {f t : ByteArray} (h : valE p = 0) (h2 : nam t = false) : rename p f t = (noPr, 7) := by unfold rename; rw [if_neg (fun x => x h), if_pos h2]
theorem rename_9 {p : Pr} {f t : ByteArray} (h : valE p = 0) (h2 : nam t = true) (h3 : (names p).any (fun x => decide (x = f)) = false) : rename p f t = (noPr, 9) := by unfold rename; rw [if_neg (fun x => x h), if_neg (by rw [h2]; decide), if_pos h3]
theorem rename_8 {p : Pr} {f t : ByteArray} (h : valE p = 0) (h2 : nam t = true) (h3 : (names p).any (fun x => decide (x = f)) = true) (h4 : occurs p t = true) : rename p f t = (noPr, 8) := by unfold rename; rw [if_neg (fun x => x h), if_neg (by rw [h2]; decide), if_neg (by rw [h3]; decide), if_pos h4]
theorem rename_0 {p : Pr} {f t : ByteArray} (h : valE p = 0) (h2 : nam t = true) (h3 : (names p).any (fun x => decide (x = f)) = true) (h4 : occurs p t = false) : rename p f t = (ren f t p, 0) := by unfold rename; rw [if_neg (fun x => x h), if_neg (by rw [h2]; decide), if_neg (by rw [h3]; decide), if_neg (by rw [h4]; decide)]
end Go.Proofs.YtgjnddjpinhkgaaDoor.A
namespace Go.Proofs.YtgjnddjpinhkgaaDoor.A
open Go.RowKit
open L (Str isName prt size_len below_2 below_box ret_bool ret_int eql_eq bytes_eq)
def QR (f t : ByteArray) (e : Ex) : Prop := ∀ (a : Option Addr) (c : Nat) (w : World), okE e → cE e ≤ 1000000 → Kids w a e.args →
  Calls Tryd.prog 81 #[exV e a c, .string f, .string t] w fun e' w' => GivesE w (renE f t e) e' w'
set_option maxHeartbeats 8000000 in
set_option maxRecDepth 100000 in
theorem rrenameExpr_any {f t : ByteArray} : ∀ e, QR f t e := by
  refine Ex.ind (P := QR f t) ?_
  intro o n s l ih a c w hok hsz hK
  obtain ⟨_, hl, hoks⟩ := okE_open hok
  have hsz2 : 1 + s.size / 64 + cEs l ≤ 1000000 := by rw [cE] at hsz; exact hsz
  have HS : Hid (∀ k (h : k < l.length), cE l[k] ≤ 1000000) := fun k h => by have := cEs_get h; omega
  have hlm : l.length ≤ 1000000 := by have := cEs_len l; omega
  have HIH := Lib.hid ih
  have HOK := Lib.hid hoks
  have HK : Hid (Kids w a l) := hK
  have hbx1 := Bx.new w #[.int .i64 o, .int .i64 n, .string s, .slice a l.length c] 52
  have hx : renE f t (.mk o n s l) = .mk o n (if o = 3 then swap f t s else s) (renEs f t l) := by rw [renE]
  rw [hx]
  have HSW : Hid (∀ w', Calls Tryd.prog 47 #[.string s, .string f, .string t] w' fun e w'' => e = .returned (.string (swap f t s)) ∧ w'' = w') := fun w' => rswap_any s f t w'
  obtain ⟨s', hs'⟩ : ∃ s', (if o = 3 then swap f t s else s) = s' := ⟨_, rfl⟩
  rw [hs']
  obtain ⟨m, hm⟩ : ∃ m, l.length = m := ⟨_, rfl⟩
  have HL := Lib.hid hm
  simp only [exV_mk] 
  rw [hm] at hlm ⊢
  have HEnd : Hid (∀ w1, w1 = (((w.alloc (.cells #[.int .i64 o, .int .i64 n, .string s, .slice a m c] 52)).alloc (.cells #[.int .i64 0, .int .i64 0, .string ⟨#[]⟩, .slice none 0 0] 52)).alloc (.cells #[.int .i64 o, .int .i64 n, .string s', .slice none 0 0] 52)) → Bx w1 w.heap.size #[.int .i64 o, .int .i64 n, .string s, .slice a m c] 52 ∧ Bx w1 (w.heap.size + 1) #[.int .i64 0, .int .i64 0, .string ⟨#[]⟩, .slice none 0 0] 52 ∧ Bx w1 (w.heap.size + 2) #[.int .i64 o, .int .i64 n, .string s', .slice none 0 0] 52 ∧ Below w.heap.size w w1 ∧ w1.heap.size = w.heap.size + 3) := by
    intro w1 hw1
    subst hw1
    refine ⟨?_, ?_, ?_, ?_, by simp⟩
    · exact ((Bx.new w _ _).below (below_box _ _)).below (below_box _ _)
    · have := (Bx.new (w.alloc (.cells #[.int .i64 o, .int .i64 n, .string s, .slice a m c] 52)) #[.int .i64 0, .int .i64 0, .string ⟨#[]⟩, .slice none 0 0] 52)
      rw [show (w.alloc (.cells #[.int .i64 o, .int .i64 n, .string s, .slice a m c] 52)).heap.size = w.heap.size + 1 by simp] at this
      exact this.below (below_box _ _)
    · have := (Bx.new ((w.alloc (.cells #[.int .i64 o, .int .i64 n, .string s, .slice a m c] 52)).alloc (.cells #[.int .i64 0, .int .i64 0, .string ⟨#[]⟩, .slice none 0 0] 52)) #[.int .i64 o, .int .i64 n, .string s', .slice none 0 0] 52)
      rw [show ((w.alloc (.cells #[.int .i64 o, .int .i64 n, .string s, .slice a m c] 52)).alloc (.cells #[.int .i64 0, .int .i64 0, .string ⟨#[]⟩, .slice none 0 0] 52)).heap.size = w.heap.size + 2 by simp] at this
      exact this
    · exact below_2 (below_2 (below_box _ _) (below_box _ _)) (below_box _ _)
  clear hok hoks hsz hsz2 ih hK hbx1 hx hm hl
  by_cases h3 : o = 3
  case' pos =>
    have b3 : (o == 3) = true := beq_iff_eq.2 h3
    rw [if_pos h3] at hs'
    rw [hs'] at HSW
    clear h3 hs'
    go_enter Tryd.func81, Tryd.ntmps81
    go_wp2_with fail
    refine (HSW.out _).mono ?_; rintro e' w3 ⟨rfl, rfl⟩
    go_wp2_with fail
  case' neg =>
    have b3 : (o == 3) = false := beq_eq_false_iff_ne.2 h3
    rw [if_neg h3] at hs'
    have HSS := Lib.hid hs'
    clear h3 HSW hs'
    go_enter Tryd.func81, Tryd.ntmps81
    go_wp2_with fail
  all_goals
    clear b3
    go_loopw [8] (fun i wr => ∃ (k : Nat) (lt : List ET) (p : Option Addr) (q : Nat), k ≤ m ∧ i = .int .i64 k ∧ Hid (Bx wr w.heap.size #[.int .i64 o, .int .i64 n, .string s, .slice a m c] 52) ∧ Hid (Bx wr (w.heap.size + 1) #[.int .i64 0, .int .i64 0, .string ⟨#[]⟩, .slice none 0 0] 52) ∧ Hid (Bx wr (w.heap.size + 2) #[.int .i64 o, .int .i64 n, .string s', .slice p lt.length q] 52) ∧ Hid (Own1 kE wr (w.heap.size + 3) (fun j => j < w.heap.size + 3) (.slice p lt.length q) lt) ∧ Hid (lt.map ET.e = (l.take k).map (renE f t)) ∧ Hid (Below w.heap.size w wr)) (fun i _ => m - (intOf i).toNat)
    case atStart =>
      have hE := HEnd.out
      try (rw [← HSS.out] at hE ⊢)
      obtain ⟨h1, h2, h3, h4, _⟩ := hE _ rfl
      exact ⟨0, [], none, 0, Nat.zero_le _, rfl, h1, h2, h3, Own1.nil, rfl, h4⟩
    case round =>
      obtain ⟨k, lt, p, q, hk, rfl, HX1, HX2, HX3, HO, HX, HB⟩ := hrel
      have hll : lt.length ≤ k := by have := congrArg List.length HX.out; rw [List.length_map, List.length_map, List.length_take] at this; omega
      have hlt7 := HX3.out.lt
      have c3 := HX1.out.cell 3
      simp at c3
      by_cases hlt : k < m
      · have hlx : k < l.length := by rw [HL.out]; exact hlt
        obtain ⟨b2, i2, rfl, hat⟩ := (HK.out.below HB.out).open hlx
        obtain ⟨d0, d1, d2, a4, c4, d3, hk4⟩ := hat.open
        have HC := Lib.hid (HIH.out k hlx a4 c4 wr.drew (HOK.out.get k hlx) (HS.out k hlx) (hk4.below (L.below_drew wr)))
        have HN : Hid ((l.take (k + 1)).map (renE f t) = (l.take k).map (renE f t) ++ [renE f t l[k]]) := by
          show _ = _
          rw [List.take_succ_eq_append_getElem hlx, List.map_append]; rfl
        have e3 := HX3.out.cell 3
        simp at e3
        clear hat hk4
        generalize renE f t l[k] = y at HC HN
        unfold exV at HC
        generalize l[k].args.length = m2 at *
        generalize l[k].op = o2 at *
        generalize l[k].n = n2 at *
        generalize l[k].s = s2 at *
        go_wp2_with fail
        go_region_law
          (first
            | (refine kE.step rfl (.tmp 33) (.tmp 42) rfl (w.heap.size + 3) (.slice p lt.length q) lt rfl HO4.out.row ⟨y, p5, q5⟩ _ rfl w4.heap.size rfl rfl (by omega) (by omega) ?_; intro g6 cap6 w6 hown6 hgrow6 hlie6; have HO6 := Lib.hid (HO4.out.push HK5.out (fun j hj => by omega) hown6 hgrow6 hlie6); have HF6 := Lib.hid (HO4.out.frame (Below.refl (w.heap.size + 3) w4) (by omega) hgrow6); have hC6 := HX34.out.keep (HF6.out.block (w.heap.size + 2) (by omega)); have r3 := hC6.cell 3; have r4 := hC6.free 3; simp at r3; have HC6 := Lib.hid hC6; clear hown6 hgrow6 hlie6 hC6)
            | (go_simp; go_at_call 81; refine HC.out.mono ?_; rintro e' w4 ⟨p5, q5, rfl, hk5, hb5⟩; have HB4 := Lib.hid (below_2 (L.below_drew _) hb5); have HO4 := Lib.hid (HO.out.below HB4.out); have hz4 := HB4.out.size; have hX4 := HX3.out.below HB4.out; have t3 := hX4.cell 3; simp at t3; have HX34 := Lib.hid hX4; have hba := below_box w4 (.cells #[.int .i64 y.op, .int .i64 y.n, .string y.s, .slice p5 y.args.length q5] 52); have t2 := (hba.cell (block_lt_of_cell t3)).trans t3; have HK5 : Hid (kE.inn (fun j => j < w.heap.size + 3 ∨ (Value.slice p lt.length q).ownBlock = some j) w4 ⟨y, p5, q5⟩) := KidsF.next hk5 ⟨fun _ _ _ => rfl, fun j hj => Or.inl (hj.elim (fun h => (show j < wr.heap.size by have h2 : j < w.heap.size + 3 := h; omega)) (fun h => (HO.out.lt j h).2))⟩; unfold exV; clear hk5 hb5 hX4 hba))
        all_goals
          have HX6 : Hid ((lt ++ [(⟨y, p5, q5⟩ : ET)]).map ET.e = (l.take (k + 1)).map (renE f t)) := by show _ = _; rw [HN.out, List.map_append, HX.out]; rfl
          have HL6 : Hid ((lt ++ [(⟨y, p5, q5⟩ : ET)]).length = lt.length + 1) := by show _ = _; simp
          have hC8 := HC6.out.set 3 (u := .slice (some ⟨g6, 0, none⟩) (lt.length + 1) cap6)
          simp only [List.setIfInBounds_toArray, List.set_cons_succ, List.set_cons_zero] at hC8
          have HC8 := Lib.hid hC8
          have HO8 := Lib.hid (HO6.out.next (Z' := fun j => j < w.heap.size + 3) (w' := w6.setCell ⟨w.heap.size + 2, 3, none⟩ (.slice (some ⟨g6, 0, none⟩) (lt.length + 1) cap6)) ⟨fun j _ hz => Below.heap_setCell _ _ _ _ (show j ≠ w.heap.size + 2 by omega), fun j hj => Or.inl hj⟩)
          have hB46 := HF6.out
          have hX1 := ((HX1.out.below HB4.out).keep (hB46.block w.heap.size (by omega))).keep (Below.heap_setCell w6 ⟨w.heap.size + 2, 3, none⟩ (.slice (some ⟨g6, 0, none⟩) (lt.length + 1) cap6) w.heap.size (show w.heap.size ≠ w.heap.size + 2 by omega))
          have hX2 := ((HX2.out.below HB4.out).keep (hB46.block (w.heap.size + 1) (by omega))).keep (Below.heap_setCell w6 ⟨w.heap.size + 2, 3, none⟩ (.slice (some ⟨g6, 0, none⟩) (lt.length + 1) cap6) (w.heap.size + 1) (show w.heap.size + 1 ≠ w.heap.size + 2 by omega))
          have HY1 := Lib.hid hX1
          have HY2 := Lib.hid hX2
          have HB8 : Hid (Below w.heap.size w (w6.setCell ⟨w.heap.size + 2, 3, none⟩ (.slice (some ⟨g6, 0, none⟩) (lt.length + 1) cap6))) := ((below_2 HB.out HB4.out).trans (hB46.mono (by omega))).setCell (p := ⟨w.heap.size + 2, 3, none⟩) (by show w.heap.size ≤ w.heap.size + 2; omega) _
          clear hC8 hB46 hX1 hX2
          go_wp2_with fail
          go_roundw
          case rel => exact ⟨k + 1, lt ++ [(⟨y, p5, q5⟩ : ET)], some ⟨g6, 0, none⟩, cap6, by omega, by go_num, HY1.out, HY2.out, by show Bx _ _ _ _; rw [HL6.out]; exact HC8.out, by show Own1 _ _ _ _ _ _; rw [HL6.out]; exact HO8.out, HX6.out, HB8.out⟩
          case measure => simp [intOf]; omega
      · have HXE : Hid (lt.map ET.e = renEs f t l) := by
          show _ = _
          rw [HX.out, renEs_map, List.take_of_length_le (by rw [HL.out]; omega)]
        have hK := HO.out.kids
        have k0 := HX3.out.cell 0
        have k1 := HX3.out.cell 1
        have k2 := HX3.out.cell 2
        have k3 := HX3.out.cell 3
        have e0 := HX2.out.cell 0
        have e1 := HX2.out.cell 1
        have e2 := HX2.out.cell 2
        have e3 := HX2.out.cell 3
        have f4 := HX2.out.free 0
        have f5 := HX2.out.free 1
        have f6 := HX2.out.free 2
        have f7 := HX2.out.free 3
        simp at k0 k1 k2 k3 e0 e1 e2 e3
        have hXB7 := (((HX2.out.set 0 (u := .int .i64 o)).set 1 (u := .int .i64 n)).set 2 (u := .string s')).set 3 (u := .slice p lt.length q)
        have q0 := hXB7.cell 0
        have q1 := hXB7.cell 1
        have q2 := hXB7.cell 2
        have q3 := hXB7.cell 3
        simp at q0 q1 q2 q3
        have hlen : lt.length = (renEs f t l).length := by rw [← HXE.out, List.length_map]
        have HV : Hid (GivesE w (.mk o n s' (renEs f t l)) (.returned (.agg #[.int .i64 o, .int .i64 n, .string s', .slice p lt.length q])) ((((wr.setCell ⟨w.heap.size + 1, 0, none⟩ (.int .i64 o)).setCell ⟨w.heap.size + 1, 1, none⟩ (.int .i64 n)).setCell ⟨w.heap.size + 1, 2, none⟩ (.string s')).setCell ⟨w.heap.size + 1, 3, none⟩ (.slice p lt.length q))) := by
          refine ⟨p, q, ?_, ?_, ?_⟩
          · rw [exV_mk, hlen]
          · show KidsF _ _ p (renEs f t l)
            rw [← HXE.out]
            refine hK.next ⟨fun j hj hz => ?_, fun j hj => Or.inl (by omega)⟩
            rw [Below.heap_setCell _ _ _ _ (by show j ≠ w.heap.size + 1; omega), Below.heap_setCell _ _ _ _ (by show j ≠ w.heap.size + 1; omega), Below.heap_setCell _ _ _ _ (by show j ≠ w.heap.size + 1; omega), Below.heap_setCell _ _ _ _ (by show j ≠ w.heap.size + 1; omega)]
          · exact (((HB.out.setCell (p := ⟨w.heap.size + 1, 0, none⟩) (Nat.le_succ _) _).setCell (p := ⟨w.heap.size + 1, 1, none⟩) (Nat.le_succ _) _).setCell (p := ⟨w.heap.size + 1, 2, none⟩) (Nat.le_succ _) _).setCell (p := ⟨w.heap.size + 1, 3, none⟩) (Nat.le_succ _) _
        clear hK hXB7 hlen HXE
        go_wp2_with fail
        refine bodyPost_ret (v := .agg #[.int .i64 o, .int .i64 n, .string s', .slice p lt.length q]) (by simp [results, Tryd.results81, go_sem, q0, q1, q2, q3]) rfl ?_
        exact HV.out
end Go.Proofs.YtgjnddjpinhkgaaDoor.A
namespace Go.Proofs.YtgjnddjpinhkgaaDoor.A
open Go.RowKit
open L (Str isName prt size_len below_2 below_box ret_bool ret_int eql_eq bytes_eq)
def QRB (f t : ByteArray) (l : List St) : Prop := ∀ (a : Option Addr) (c : Nat) (w : World), okB l → l.length ≤ 1000000000000000 → cB l ≤ 1000000 → Bodies w a l →
  Calls Tryd.prog 46 #[.slice a l.length c, .string f, .string t] w fun e' w' => GivesS w (l.map (renS f t)) e' w'
/-- a store into the box leaves the fresh trees -/
theorem kids_set {w : World} {b i : Nat} {u : Value} {p : Option Addr} {x : List Ex} (h : KidsF (fun j => j < b + 1) w p x) : KidsF (fun j => j < b + 1) (w.setCell ⟨b, i, none⟩ u) p x :=
  h.next ⟨fun j _ hz => Below.heap_setCell _ _ _ _ (by have h2 : ¬ j < b + 1 := hz; show j ≠ b; omega), fun _ hj => Or.inl hj⟩
theorem bodies_set {w : World} {b i : Nat} {u : Value} {p : Option Addr} {x : List St} (h : BodiesF (fun j => j < b + 1) w p x) : BodiesF (fun j => j < b + 1) (w.setCell ⟨b, i, none⟩ u) p x :=
  h.next ⟨fun j _ hz => Below.heap_setCell _ _ _ _ (by have h2 : ¬ j < b + 1 := hz; show j ≠ b; omega), fun _ hj => Or.inl hj⟩
theorem kids_on {w w' : World} {b : Nat} {p : Option Addr} {x : List Ex} (h : KidsF (fun j => j < b + 1) w p x) (hb : Below w.heap.size w w') : KidsF (fun j => j < b + 1) w' p x := h.next ⟨fun j hj _ => hb.block j hj, fun _ hj => Or.inl hj⟩
theorem bodies_on {w w' : World} {b : Nat} {p : Option Addr} {x : List St} (h : BodiesF (fun j => j < b + 1) w p x) (hb : Below w.heap.size w w') : BodiesF (fun j => j < b + 1) w' p x := h.next ⟨fun j hj _ => hb.block j hj, fun _ hj => Or.inl hj⟩
theorem kids_dn {w : World} {b n : Nat} {p : Option Addr} {x : List Ex} (h : KidsF (fun j => j < n) w p x) (hb : b < n) : KidsF (fun j => j < b + 1) w p x := h.next ⟨fun _ _ _ => rfl, fun _ hj => Or.inl (Nat.lt_of_lt_of_le hj hb)⟩
theorem bodies_dn {w : World} {b n : Nat} {p : Option Addr} {x : List St} (h : BodiesF (fun j => j < n) w p x) (hb : b < n) : BodiesF (fun j => j < b + 1) w p x := h.next ⟨fun _ _ _ => rfl, fun _ hj => Or.inl (Nat.lt_of_lt_of_le hj hb)⟩
set_option maxHeartbeats 16000000 in
set_option maxRecDepth 100000 in
theorem rrenameBody_any {f t : ByteArray} : ∀ l, QRB f t l := by
  refine body_ind fun l ih => ?_
  intro a c w hok hl hsz hK
  have HIH := Lib.hid ih
  have HOK := Lib.hid hok
  have HK := Lib.hid hK
  have HS : Hid (∀ k (h : k < l.length), cS l[k] ≤ 1000000) := fun k h => by have := cB_get h; omega
  have hlm : l.length ≤ 1000000 := by have := cB_len l; omega
  obtain ⟨m, hm⟩ : ∃ m, l.length = m := ⟨_, rfl⟩
  have HL := Lib.hid hm
  rw [hm] at hlm ⊢
  clear hok hsz ih hK hm hl
  go_enter Tryd.func46, Tryd.ntmps46
  go_wp2_with fail
  go_loopw [7, 8] (fun v i wr => ∃ (k : Nat) (lt : List SX) (p : Option Addr) (q : Nat), k ≤ m ∧ i = .int .i64 k ∧ v = .slice p lt.length q ∧ Hid (Own1 kS wr w.heap.size (fun j => j < w.heap.size) (.slice p lt.length q) lt) ∧ Hid (lt.map SX.s = (l.take k).map (renS f t)) ∧ Hid (Below w.heap.size w wr)) (fun _ i _ => m - (intOf i).toNat)
  case atStart => exact ⟨0, [], none, 0, Nat.zero_le _, rfl, rfl, Own1.nil, rfl, Below.refl _ _⟩
  case round =>
    obtain ⟨k, lt, p, q, hk, rfl, rfl, HO, HX, HB⟩ := hrel
    have hll : lt.length ≤ k := by have := congrArg List.length HX.out; rw [List.length_map, List.length_map, List.length_take] at this; omega
    by_cases hlt : k < m
    · have hlx : k < l.length := by rw [HL.out]; exact hlt
      obtain ⟨b2, i2, rfl, hat⟩ := (HK.out.below HB.out).open hlx
      have ho := okS_open (HOK.out.get k hlx)
      have hcs := HS.out k hlx
      obtain ⟨q1, q2⟩ := HIH.out k hlx
      have HN : Hid ((l.take (k + 1)).map (renS f t) = (l.take k).map (renS f t) ++ [renS f t l[k]]) := by
        show _ = _
        rw [List.take_succ_eq_append_getElem hlx, List.map_append]; rfl
      generalize l[k] = s at hat ho hcs q1 q2 HN
      have hsp := cS_parts s
      obtain ⟨a1, c1, a2, c2, a3, c3, a4, c4, hcc, hks⟩ := hat.open
      have HSW := Lib.hid (fun w' => rswap_any s.name f t w')
      have hz : w.heap.size ≤ wr.heap.size := HB.out.size
      have HCA := Lib.hid (fun w' (hb : Below wr.heap.size wr w') => rrenameExpr_any (f := f) (t := t) s.a a1 c1 w' ho.a (by omega) (hks.below hb).a)
      have HCB := Lib.hid (fun w' (hb : Below wr.heap.size wr w') => rrenameExpr_any (f := f) (t := t) s.b a2 c2 w' ho.b (by omega) (hks.below hb).b)
      have HQ1 := Lib.hid (fun w' (hb : Below wr.heap.size wr w') => q1 a3 c3 w' ho.body ho.bodyLen (by omega) (hks.below hb).body)
      have HQ2 := Lib.hid (fun w' (hb : Below wr.heap.size wr w') => q2 a4 c4 w' ho.els ho.elsLen (by omega) (hks.below hb).els)
      have HS2 : Hid (renS f t s = .mk s.op (swap f t s.name) s.mx (renE f t s.a) (renE f t s.b) (renB f t s.body) (renB f t s.els)) := by
        show _ = _
        obtain ⟨o, nm, mx, a, b, bd, el⟩ := s
        rw [renS]; rfl
      have HW3 := Lib.hid (below_box wr (.cells #[.int .i64 s.op, .string (swap f t s.name), .int .i64 s.mx, .int .i64 s.a.op, .int .i64 s.a.n, .string s.a.s, .slice a1 s.a.args.length c1, .int .i64 s.b.op, .int .i64 s.b.n, .string s.b.s, .slice a2 s.b.args.length c2, .slice a3 s.body.length c3, .slice a4 s.els.length c4] 56))
      have HX3 := Lib.hid (Bx.new wr #[.int .i64 s.op, .string (swap f t s.name), .int .i64 s.mx, .int .i64 s.a.op, .int .i64 s.a.n, .string s.a.s, .slice a1 s.a.args.length c1, .int .i64 s.b.op, .int .i64 s.b.n, .string s.b.s, .slice a2 s.b.args.length c2, .slice a3 s.body.length c3, .slice a4 s.els.length c4] 56)
      obtain ⟨k0, k1, k2, k3, k4, k5, k6, k7, k8, k9, k10, k11, k12⟩ := hcc
      unfold exV at HCA HCB
      clear hat ho hcs q1 q2 hsp hks
      go_wp2_with fail
      refine (HSW.out _).mono ?_; rintro e' w3 ⟨rfl, rfl⟩
      go_wp2_with fail
      with_reducible refine (HCA.out _ HW3.out).mono ?_
      rintro e' v3 ⟨pA, qA, rfl, hkA, hb3⟩
      have hX3 := HX3.out.below hb3
      have HKA := Lib.hid (kids_dn hkA HX3.out.lt)
      have n3 := hX3.cell 3
      have f3 := hX3.free 3
      have n4 := hX3.cell 4
      have f4 := hX3.free 4
      have n5 := hX3.cell 5
      have f5 := hX3.free 5
      have n6 := hX3.cell 6
      have f6 := hX3.free 6
      simp at n3 n4 n5 n6
      have hX4 := ((((hX3.set 3 (u := .int .i64 (renE f t s.a).op)).set 4 (u := .int .i64 (renE f t s.a).n)).set 5 (u := .string (renE f t s.a).s)).set 6 (u := .slice pA (renE f t s.a).args.length qA))
      simp only [List.setIfInBounds_toArray, List.set_cons_succ, List.set_cons_zero] at hX4
      have HW4 := Lib.hid (((((below_2 HW3.out hb3).setCell (p := ⟨wr.heap.size, 3, none⟩) (Nat.le_refl _) (.int .i64 (renE f t s.a).op)).setCell (p := ⟨wr.heap.size, 4, none⟩) (Nat.le_refl _) (.int .i64 (renE f t s.a).n)).setCell (p := ⟨wr.heap.size, 5, none⟩) (Nat.le_refl _) (.string (renE f t s.a).s)).setCell (p := ⟨wr.heap.size, 6, none⟩) (Nat.le_refl _) (.slice pA (renE f t s.a).args.length qA))
      have HKA := Lib.hid (kids_set (i := 6) (u := .slice pA (renE f t s.a).args.length qA) (kids_set (i := 5) (u := .string (renE f t s.a).s) (kids_set (i := 4) (u := .int .i64 (renE f t s.a).n) (kids_set (i := 3) (u := .int .i64 (renE f t s.a).op) HKA.out))))
      have HX4 := Lib.hid hX4
      clear hkA hb3 hX3 hX4
      unfold exV
      go_upto_region 8 with fail
      generalize ((((v3.setCell ⟨wr.heap.size, 3, none⟩ (.int .i64 (renE f t s.a).op)).setCell ⟨wr.heap.size, 4, none⟩ (.int .i64 (renE f t s.a).n)).setCell ⟨wr.heap.size, 5, none⟩ (.string (renE f t s.a).s)).setCell ⟨wr.heap.size, 6, none⟩ (.slice pA (renE f t s.a).args.length qA)) = u3 at *
      have j7 := HX4.out.cell 7
      have j8 := HX4.out.cell 8
      have j9 := HX4.out.cell 9
      have j10 := HX4.out.cell 10
      simp at j7 j8 j9 j10
      clear n3 f3 n4 f4 n5 f5 n6 f6
      go_wp2_with fail
      clear j7 j8 j9 j10
      with_reducible refine (HCB.out _ HW4.out).mono ?_
      rintro e' v4 ⟨pB, qB, rfl, hkB, hb4⟩
      have hX4 := HX4.out.below hb4
      have HKB := Lib.hid (kids_dn hkB HX4.out.lt)
      have HKA := Lib.hid (kids_on HKA.out hb4)
      have n7 := hX4.cell 7
      have f7 := hX4.free 7
      have n8 := hX4.cell 8
      have f8 := hX4.free 8
      have n9 := hX4.cell 9
      have f9 := hX4.free 9
      have n10 := hX4.cell 10
      have f10 := hX4.free 10
      simp at n7 n8 n9 n10
      have hX5 := ((((hX4.set 7 (u := .int .i64 (renE f t s.b).op)).set 8 (u := .int .i64 (renE f t s.b).n)).set 9 (u := .string (renE f t s.b).s)).set 10 (u := .slice pB (renE f t s.b).args.length qB))
      simp only [List.setIfInBounds_toArray, List.set_cons_succ, List.set_cons_zero] at hX5
      have HW5 := Lib.hid (((((below_2 HW4.out hb4).setCell (p := ⟨wr.heap.size, 7, none⟩) (Nat.le_refl _) (.int .i64 (renE f t s.b).op)).setCell (p := ⟨wr.heap.size, 8, none⟩) (Nat.le_refl _) (.int .i64 (renE f t s.b).n)).setCell (p := ⟨wr.heap.size, 9, none⟩) (Nat.le_refl _) (.string (renE f t s.b).s)).setCell (p := ⟨wr.heap.size, 10, none⟩) (Nat.le_refl _) (.slice pB (renE f t s.b).args.length qB))
      have HKB := Lib.hid (kids_set (i := 10) (u := .slice pB (renE f t s.b).args.length qB) (kids_set (i := 9) (u := .string (renE f t s.b).s) (kids_set (i := 8) (u := .int .i64 (renE f t s.b).n) (kids_set (i := 7) (u := .int .i64 (renE f t s.b).op) HKB.out))))
      have HKA := Lib.hid (kids_set (i := 10) (u := .slice pB (renE f t s.b).args.length qB) (kids_set (i := 9) (u := .string (renE f t s.b).s) (kids_set (i := 8) (u := .int .i64 (renE f t s.b).n) (kids_set (i := 7) (u := .int .i64 (renE f t s.b).op) HKA.out))))
      have HX5 := Lib.hid hX5
      clear hkB hb4 hX4 hX5
      unfold exV
      go_upto_region 9 with fail
      generalize ((((v4.setCell ⟨wr.heap.size, 7, none⟩ (.int .i64 (renE f t s.b).op)).setCell ⟨wr.heap.size, 8, none⟩ (.int .i64 (renE f t s.b).n)).setCell ⟨wr.heap.size, 9, none⟩ (.string (renE f t s.b).s)).setCell ⟨wr.heap.size, 10, none⟩ (.slice pB (renE f t s.b).args.length qB)) = u4 at *
      have j11 := HX5.out.cell 11
      simp at j11
      clear n7 f7 n8 f8 n9 f9 n10 f10
      go_wp2_with fail
      clear j11
      with_reducible refine (HQ1.out _ HW5.out).mono ?_
      rintro e' v5 ⟨pC, qC, rfl, hkC, hb5⟩
      have hX5 := HX5.out.below hb5
      have HKC := Lib.hid (bodies_dn hkC HX5.out.lt)
      have HKA := Lib.hid (kids_on HKA.out hb5)
      have HKB := Lib.hid (kids_on HKB.out hb5)
      have n11 := hX5.cell 11
      have f11 := hX5.free 11
      simp at n11
      have hX6 := (hX5.set 11 (u := .slice pC s.body.length qC))
      simp only [List.setIfInBounds_toArray, List.set_cons_succ, List.set_cons_zero] at hX6
      have HW6 := Lib.hid ((below_2 HW5.out hb5).setCell (p := ⟨wr.heap.size, 11, none⟩) (Nat.le_refl _) (.slice pC s.body.length qC))
      have HKC := Lib.hid (bodies_set (i := 11) (u := .slice pC s.body.length qC) HKC.out)
      have HKA := Lib.hid (kids_set (i := 11) (u := .slice pC s.body.length qC) HKA.out)
      have HKB := Lib.hid (kids_set (i := 11) (u := .slice pC s.body.length qC) HKB.out)
      have HX6 := Lib.hid hX6
      clear hkC hb5 hX5 hX6
      go_upto_region 10 with fail
      generalize (v5.setCell ⟨wr.heap.size, 11, none⟩ (.slice pC s.body.length qC)) = u5 at *
      have j12 := HX6.out.cell 12
      simp at j12
      clear n11 f11
      go_wp2_with fail
      clear j12
      with_reducible refine (HQ2.out _ HW6.out).mono ?_
      rintro e' v6 ⟨pD, qD, rfl, hkD, hb6⟩
      have hX6 := HX6.out.below hb6
      have HKD := Lib.hid (bodies_dn hkD HX6.out.lt)
      have HKA := Lib.hid (kids_on HKA.out hb6)
      have HKB := Lib.hid (kids_on HKB.out hb6)
      have HKC := Lib.hid (bodies_on HKC.out hb6)
      have n12 := hX6.cell 12
      have f12 := hX6.free 12
      simp at n12
      have hX7 := (hX6.set 12 (u := .slice pD s.els.length qD))
      simp only [List.setIfInBounds_toArray, List.set_cons_succ, List.set_cons_zero] at hX7
      have HW7 := Lib.hid ((below_2 HW6.out hb6).setCell (p := ⟨wr.heap.size, 12, none⟩) (Nat.le_refl _) (.slice pD s.els.length qD))
      have HKD := Lib.hid (bodies_set (i := 12) (u := .slice pD s.els.length qD) HKD.out)
      have HKA := Lib.hid (kids_set (i := 12) (u := .slice pD s.els.length qD) HKA.out)
      have HKB := Lib.hid (kids_set (i := 12) (u := .slice pD s.els.length qD) HKB.out)
      have HKC := Lib.hid (bodies_set (i := 12) (u := .slice pD s.els.length qD) HKC.out)
      have HX7 := Lib.hid hX7
      clear hkD hb6 hX6 hX7
      go_upto_region 11 with fail
      generalize (v6.setCell ⟨wr.heap.size, 12, none⟩ (.slice pD s.els.length qD)) = u6 at *
      have hzz7 := HX7.out.lt
      have HO7 := Lib.hid (HO.out.below HW7.out)
      obtain ⟨y, hy⟩ : ∃ y : SX, y = ⟨.mk s.op (swap f t s.name) s.mx (renE f t s.a) (renE f t s.b) (renB f t s.body) (renB f t s.els), pA, qA, pB, qB, pC, qC, pD, qD⟩ := ⟨_, rfl⟩
      rw [← renB_map] at HKC HKD
      have hK6 : kS.inn (fun j => j < w.heap.size ∨ (Value.slice p lt.length q).ownBlock = some j) u6 y := by
        have hst : Stays (fun j => j < wr.heap.size + 1) (fun j => j < w.heap.size ∨ (Value.slice p lt.length q).ownBlock = some j) u6 u6 := ⟨fun _ _ _ => rfl, fun j hj => by
          rcases hj with hj | hj
          · left; show j < wr.heap.size + 1; omega
          · left; have := (HO.out.lt j hj).2; show j < wr.heap.size + 1; omega⟩
        rw [hy]
        exact ⟨HKA.out.next hst, HKB.out.next hst, HKC.out.next hst, HKD.out.next hst⟩
      have HK6 := Lib.hid hK6
      have HY := Lib.hid hy
      have c0' := HX7.out.cell 0
      have c1' := HX7.out.cell 1
      have c2' := HX7.out.cell 2
      have c3' := HX7.out.cell 3
      have c4' := HX7.out.cell 4
      have c5' := HX7.out.cell 5
      have c6' := HX7.out.cell 6
      have c7' := HX7.out.cell 7
      have c8' := HX7.out.cell 8
      have c9' := HX7.out.cell 9
      have c10' := HX7.out.cell 10
      have c11' := HX7.out.cell 11
      have c12' := HX7.out.cell 12
      simp at c0' c1' c2' c3' c4' c5' c6' c7' c8' c9' c10' c11' c12'
      have HCS : Hid ([.int .i64 s.op, .string (swap f t s.name), .int .i64 s.mx, .int .i64 (renE f t s.a).op, .int .i64 (renE f t s.a).n, .string (renE f t s.a).s, .slice pA (renE f t s.a).args.length qA, .int .i64 (renE f t s.b).op, .int .i64 (renE f t s.b).n, .string (renE f t s.b).s, .slice pB (renE f t s.b).args.length qB, .slice pC s.body.length qC, .slice pD s.els.length qD] = kS.f y) := by
        show _ = _
        rw [hy, ← renB_len f t s.body, ← renB_len f t s.els]
        rfl
      have HYS : Hid (y.s = renS f t s) := by show _ = _; rw [hy, HS2.out]
      clear hK6 hy
      go_wp2_with (at_builtin; refine kS.wpList rfl (.tmp 50) (.tmp 52) rfl w.heap.size (.slice p lt.length q) lt rfl HO7.out.row y _ HCS.out u6.heap.size rfl rfl (by omega) (by omega) ?_; intro g6 cap6 w6 hown6 hgrow6 hlie6)
      have HO6 := Lib.hid (HO7.out.push HK6.out (fun j hj => by show j < u6.heap.size; have h2 : j < w.heap.size := hj; omega) hown6 hgrow6 hlie6)
      have HB6 := Lib.hid (HO7.out.frame (HB.out.trans (HW7.out.mono hz)) (by omega) hgrow6)
      have HX6 : Hid ((lt ++ [y]).map SX.s = (l.take (k + 1)).map (renS f t)) := by show _ = _; rw [HN.out, List.map_append, HX.out, List.map_singleton, HYS.out]
      have HL6 : Hid ((lt ++ [y]).length = lt.length + 1) := by show _ = _; simp
      clear hown6 hgrow6 hlie6
      go_wp2_with fail
      go_roundw
      case rel =>
        exact ⟨k + 1, lt ++ [y], some ⟨g6, 0, none⟩, cap6, by omega, by go_num, by rw [HL6.out], by show Own1 _ _ _ _ _ _; rw [HL6.out]; exact HO6.out, HX6.out, HB6.out⟩
      case measure => simp [intOf]; omega
    · have HXE : Hid (lt.map SX.s = l.map (renS f t)) := by
        show _ = _
        rw [HX.out, List.take_of_length_le (by rw [HL.out]; omega)]
      have hK := HO.out.bodies
      have hlen : lt.length = (l.map (renS f t)).length := by rw [← HXE.out, List.length_map]
      have HV : Hid (GivesS w (l.map (renS f t)) (.returned (.slice p lt.length q)) wr) := by
        refine ⟨p, q, by rw [hlen], ?_, HB.out⟩
        rw [← HXE.out]
        exact hK
      clear hK hlen
      go_wp2_with fail
      go_ret
      exact HV.out
end Go.Proofs.YtgjnddjpinhkgaaDoor.A
