/-
  What the reference of layer 8 returns: Names: a contract.
  Laws of layer 8: AstArity, AstChecksExprs, AstEquals: walks.
  Laws of layer 8: what texts returns; what the reach gives of the walk's expressions.
  Laws of layer 8: AstWalks: a walk.
  Laws of layer 8: AstBounds: a walk.
  Laws of layer 8: the examples, by the program's own contracts.
-/
import Derived.Test.YtffamknoamknpaaGK
import Derived.Test.YtffamknoamknpaaGJ
import Derived.Test.YtffamknoamknpaaGL
import Derived.Test.YtffamknoamknpaaGX
import Derived.Test.YtffamknoamknpaaGC
import Derived.Lib.QuietBelow
import Derived.BigQuiet
import Derived.Test.YtffamknoamknpaaGW
import Derived.Deep.RegionHeld3
import Derived.Test.YtffamknoamknpaaGP
import Derived.Test.YtffamknoamknpaaGS
namespace Go.Proofs.Ytffamknoamknpaa.A
open Go.RowKit
open L (Str isName prt size_len below_2 below_box ret_bool ret_int eql_eq bytes_eq)

set_option maxHeartbeats 8000000 in
set_option maxRecDepth 100000 in
theorem rnames_any (p : Pr) (a1 a2 : Option Addr) (c1 c2 : Nat) (hok : OkP p) (hpl : p.params.length ≤ 1000) (w : World) (hK : PrIn w p a1 a2) :
    Calls Try.prog 28 #[prV p a1 c1 a2 c2] w fun e' w' => GivesN w (names p) e' w' := by
  have hb := below_box w (prO p a1 c1 a2 c2)
  have hbx := Bx.new w #[.string p.name, .slice a1 p.params.length c1, .slice a2 p.body.length c2] 35
  have HC := Lib.hid (fun w' hK => rwalk_any p a1 a2 c1 c2 hok.body hok.bodyLen w' hK)
  have HB := Lib.hid hb
  have HBX := Lib.hid hbx
  have HK := Lib.hid (hK.below hb)
  have hn : (walk p).length ≤ 401 := by unfold walk; rw [List.length_take]; omega
  have hnl := names_len p hpl
  have HND : Hid (names p = p.params.map Pm.name ++ (walk p).filterMap V.decl) := rfl
  obtain ⟨m, hm⟩ : ∃ m, p.params.length = m := ⟨_, rfl⟩
  have HL := Lib.hid hm
  unfold prO at *
  unfold prV at *
  rw [hm] at HC HB HBX HK hpl ⊢
  clear hok hK hb hbx hm
  go_enter Try.func28, Try.ntmps28
  go_wp2_with fail
  go_loopw [3, 4] (fun s3 s4 wr => ∃ (k : Nat) (l : List ByteArray) (pl : Option Addr) (ql : Nat), k ≤ m ∧ s4 = .int .i64 k ∧ s3 = .slice pl l.length ql ∧ Hid (l = (p.params.take k).map Pm.name) ∧ Hid (Own1 kN wr (w.heap.size + 1) (fun j => j < w.heap.size + 1) (.slice pl l.length ql) l) ∧ Hid (Below (w.alloc (.cells #[.string p.name, .slice a1 m c1, .slice a2 p.body.length c2] 35)).heap.size (w.alloc (.cells #[.string p.name, .slice a1 m c1, .slice a2 p.body.length c2] 35)) wr)) (fun _ i _ => m - (intOf i).toNat)
  case atStart => exact ⟨0, [], none, 0, Nat.zero_le _, rfl, rfl, rfl, Own1.nil, Below.refl _ _⟩
  case round =>
    obtain ⟨k, l, pl, ql, hk, rfl, rfl, HX, HR, HBr⟩ := hrel
    have hllk : l.length ≤ k := by have := congrArg List.length HX.out; rw [List.length_map, List.length_take] at this; omega
    have hbx := HBX.out.below HBr.out
    have x0 := hbx.cell 0
    have x1 := hbx.cell 1
    have x2 := hbx.cell 2
    simp at x0 x1 x2
    have hz1 : (w.alloc (.cells #[.string p.name, .slice a1 m c1, .slice a2 p.body.length c2] 35)).heap.size = w.heap.size + 1 := by simp
    have hz := HBr.out.size
    rw [hz1] at hz
    have HZ1 := Lib.hid hz1
    clear hz1 hbx
    by_cases hlt : k < m
    · have hlx : k < p.params.length := by rw [HL.out]; exact hlt
      obtain ⟨b3, i3, rfl, hcc⟩ := (HK.out.below HBr.out).params.open hlx
      obtain ⟨f0, f1⟩ := hcc k hlx
      have hxn := names_take hlx
      generalize p.params[k] = q at f0 f1 hxn
      have HXN : Hid (l ++ [q.name] = (p.params.take (k + 1)).map Pm.name) := by show _ = _; rw [hxn, HX.out]
      have HL6 : Hid ((l ++ [q.name]).length = l.length + 1) := by show _ = _; simp
      clear hcc hxn
      go_wp2_with (at_builtin; refine kN.wpList rfl (.tmp 14) (.tmp 21) rfl (w.heap.size + 1) (.slice pl l.length ql) l rfl HR.out.row q.name _ rfl wr.heap.size rfl rfl (by omega) (by omega) ?_; intro g6 cap6 w6 hown6 hgrow6 hlie6)
      have HR6 := Lib.hid (HR.out.push trivial (fun j hj => by omega) hown6 hgrow6 hlie6)
      have HB6 := Lib.hid (HR.out.frame (by rw [← HZ1.out]; exact HBr.out) hz hgrow6)
      clear hown6 hgrow6 hlie6
      go_wp2_with fail
      go_roundw
      case rel => exact ⟨k + 1, l ++ [q.name], some ⟨g6, 0, none⟩, cap6, by omega, by go_num, by rw [HL6.out], HXN.out, by show Own1 _ _ _ _ _ _; rw [HL6.out]; exact HR6.out, by show Below _ _ _; rw [HZ1.out]; exact HB6.out⟩
      case measure => simp [intOf]; omega
    · have hX := HX.out
      rw [List.take_of_length_le (by rw [HL.out]; omega)] at hX
      have HX0 := Lib.hid hX
      have HC2 := Lib.hid (HC.out wr (HK.out.below HBr.out).body)
      clear hX
      go_wp2_with fail
      refine HC2.out.mono ?_; rintro e w2 ⟨p3, q3, l', rfl, ho, hi, hv, hb2⟩
      have HO := Lib.hid ho
      have HW := Lib.hid hv
      have HB2 := Lib.hid hb2
      have HR2 := Lib.hid (HR.out.below hb2)
      have hz2 := hb2.size
      have hln : l'.length ≤ 401 := by rw [← vs_len, hv]; exact hn
      clear ho hi hv hb2 x0 x1 x2
      go_wp2_with fail
      go_loopw [3, 6] (fun s3 s6 w3 => ∃ (k2 : Nat) (l2 : List ByteArray) (pl : Option Addr) (ql : Nat), k2 ≤ l'.length ∧ s6 = .int .i64 k2 ∧ s3 = .slice pl l2.length ql ∧ Hid (l2 = l ++ ((walk p).take k2).filterMap V.decl) ∧ Hid (Own1 kN w3 (w.heap.size + 1) (fun j => j < w.heap.size + 1) (.slice pl l2.length ql) l2) ∧ Hid (∀ g, p3 = some ⟨g, 0, none⟩ → w3.heap[g]? = w2.heap[g]? ∧ (Value.slice pl l2.length ql).ownBlock ≠ some g) ∧ Hid (Below (w.heap.size + 1) w2 w3)) (fun _ i _ => l'.length - (intOf i).toNat)
      case atStart =>
        refine ⟨0, l, pl, ql, Nat.zero_le _, rfl, rfl, (List.append_nil l).symm, HR2.out, fun g hg => ⟨rfl, fun h => ?_⟩, Below.refl _ _⟩
        have h1 := (HR.out.lt g h).2
        have h2 := (World.ownsRow.lt HO.out g (by rw [hg]; rfl)).1
        omega
      case round =>
        obtain ⟨k2, l2, pl2, ql2, hk2, rfl, rfl, HX2, HR3, HG, HBs⟩ := hrel
        have hll2 : l2.length ≤ 1000 + k2 := by
          have := congrArg List.length HX2.out
          rw [List.length_append] at this
          have h2 := fm_le V.decl (walk p) k2
          omega
        have hz3 := HBs.out.size
        by_cases hlt2 : k2 < l'.length
        · obtain ⟨g3, rfl, hcell⟩ := visit_cells HO.out hlt2
          have hlw : k2 < (walk p).length := by rw [← HW.out, vs_len]; exact hlt2
          have hvk : (walk p)[k2] = (l'[k2]).v := by simp only [← HW.out, vs, List.getElem_map]
          have hxt := fm_take V.decl hlw
          rw [hvk] at hxt
          obtain ⟨hgh, hgn⟩ := HG.out g3 rfl
          have hcr : ∀ r, r < 20 → wr.cell? ⟨g3, k2 * 20 + r, none⟩ = (l'[k2]).cells[r]? := fun r hr => (World.cell?_of_block (w := w2) (by exact hgh)).trans (hcell r hr)
          generalize l'[k2] = y at hcr hxt
          clear hvk hlw hcell
          cases y with
          | ex e r a5 c5 =>
            have f0 : wr.cell? ⟨g3, k2 * 20, none⟩ = some (.bool false) := hcr 0 (by omega)
            have HX3 : Hid (l2 = l ++ ((walk p).take (k2 + 1)).filterMap V.decl) := by show _ = _; rw [hxt, ← List.append_assoc, ← HX2.out]; exact (List.append_nil _).symm
            clear hcr hxt
            go_wp2_with fail
            go_roundw
            case rel => exact ⟨k2 + 1, l2, pl2, ql2, by omega, by go_num, rfl, HX3.out, HR3.out, HG.out, HBs.out⟩
            case measure => simp [intOf]; omega
          | st s d a5 c5 a6 c6 a7 c7 a8 c8 =>
            have f0 : wr.cell? ⟨g3, k2 * 20, none⟩ = some (.bool true) := hcr 0 (by omega)
            have f1 : wr.cell? ⟨g3, k2 * 20 + 1, none⟩ = some (.int .i64 s.op) := hcr 1 (by omega)
            have f2 : wr.cell? ⟨g3, k2 * 20 + 2, none⟩ = some (.string s.name) := hcr 2 (by omega)
            have hd : V.decl (VT.st s d a5 c5 a6 c6 a7 c7 a8 c8).v = if s.op = 1 ∨ s.op = 6 then some s.name else none := rfl
            rw [hd] at hxt
            by_cases hop : s.op = 1 ∨ s.op = 6
            · rw [if_pos hop] at hxt
              have HX3 : Hid (l2 ++ [s.name] = l ++ ((walk p).take (k2 + 1)).filterMap V.decl) := by show _ = _; rw [hxt, ← List.append_assoc, ← HX2.out]
              have HL6 : Hid ((l2 ++ [s.name]).length = l2.length + 1) := by show _ = _; simp
              have t2 : wr.cell? ⟨g3, k2 * 20 + 1 + 1, none⟩ = some (.string s.name) := f2
              have hg3 := block_lt_of_cell f0
              clear hcr hxt hd
              rcases hop with hop | hop
              all_goals
                rw [hop] at f1
                clear hop
                go_wp2_with (at_builtin; refine kN.wpList rfl (.tmp 54) (.tmp 61) rfl (w.heap.size + 1) (.slice pl2 l2.length ql2) l2 rfl HR3.out.row s.name _ rfl wr.heap.size rfl rfl (by omega) (by omega) ?_; intro g6 cap6 w6 hown6 hgrow6 hlie6)
                have HR6 := Lib.hid (HR3.out.push trivial (fun j hj => by omega) hown6 hgrow6 hlie6)
                have HB6 := Lib.hid (HR3.out.frame HBs.out (by omega) hgrow6)
                have HG6 : Hid (∀ g, (some ⟨g3, 0, none⟩ : Option Addr) = some ⟨g, 0, none⟩ → w6.heap[g]? = w2.heap[g]? ∧ (Value.slice (some ⟨g6, 0, none⟩) (l2.length + 1) cap6).ownBlock ≠ some g) := fun g hg => by
                  have hgg : g3 = g := by injection hg with h; injection h
                  subst hgg
                  refine ⟨((hgrow6.block g3 (by simp; exact Nat.lt_succ_of_lt hg3) (fun e => hgn e.symm)).trans (Below.heap_alloc wr _ g3 hg3)).trans hgh, fun h => ?_⟩
                  have h6 : g6 = g3 := by injection h
                  rcases hlie6 with h7 | h7
                  · exact hgn (by rw [h7, h6])
                  · have hlt9 : g3 < wr.heap.size := hg3
                    omega
                clear hown6 hgrow6 hlie6
                go_wp2_with fail
                go_roundw
                case rel => exact ⟨k2 + 1, l2 ++ [s.name], some ⟨g6, 0, none⟩, cap6, by omega, by go_num, by rw [HL6.out], HX3.out, by show Own1 _ _ _ _ _ _; rw [HL6.out]; exact HR6.out, by intro g hg; rw [HL6.out]; exact HG6.out g hg, HB6.out⟩
                case measure => simp [intOf]; omega
            · rw [if_neg hop] at hxt
              have HX3 : Hid (l2 = l ++ ((walk p).take (k2 + 1)).filterMap V.decl) := by show _ = _; rw [hxt, ← List.append_assoc, ← HX2.out]; exact (List.append_nil _).symm
              have o1 : (s.op == 1) = false := beq_eq_false_iff_ne.2 (by omega)
              have o6 : (s.op == 6) = false := beq_eq_false_iff_ne.2 (by omega)
              clear hcr hxt hd hop
              go_wp2_with fail
              go_roundw
              case rel => exact ⟨k2 + 1, l2, pl2, ql2, by omega, by go_num, rfl, HX3.out, HR3.out, HG.out, HBs.out⟩
              case measure => simp [intOf]; omega
        · have hX2 := HX2.out
          rw [List.take_of_length_le (by rw [← HW.out, vs_len]; omega), HX0.out, ← HND.out] at hX2
          obtain ⟨_, _, hsh, hle⟩ := HR3.out.shape
          have hq : l2.length ≤ ql2 := by injection hsh with h1 h2 h3; omega
          have HV : Hid (GivesN w (names p) (.returned (.slice pl2 l2.length ql2)) wr) := by
            refine ⟨pl2, ql2, by rw [hX2], by rw [← hX2]; exact hq, by rw [← hX2]; exact HR3.out.strs, ?_⟩
            exact (below_2 HB.out (below_2 HBr.out HB2.out)).trans (HBs.out.mono (Nat.le_succ _))
          clear hX2 hsh hle hq
          go_wp2_with fail
          go_ret
          exact HV.out
end Go.Proofs.Ytffamknoamknpaa.A
namespace Go.Proofs.Ytffamknoamknpaa.A
open Go.RowKit
open L (Str isName prt size_len below_2 below_box ret_bool ret_int eql_eq bytes_eq)

/-- what the law's examples return -/
def Works : Prop := ∀ w : World, Calls Try.prog 13 #[] w fun e w' => e = .returned (.bool true) ∧ Below w.heap.size w w'
set_option maxRecDepth 100000 in
theorem arity_walk (HWk : Works) (op : Int) (w : World) : Calls Try.prog 3 #[.int .i64 op] w fun e w' => e = .returned (.bool true) ∧ Below w.heap.size w w' := by
  have HA := Lib.hid (oarity_any op)
  have HR := Lib.hid (rarity_any op)
  have HW := Lib.hid HWk
  clear HWk
  generalize arity op = r at HA HR
  go_enter Try.func3, Try.ntmps3
  go_wp2_with fail
  refine (HA.out _).mono ?_; rintro e w1 ⟨rfl, rfl⟩
  go_wp2_with fail
  refine (HR.out _).mono ?_; rintro e w2 ⟨rfl, rfl⟩
  go_wp2_with fail
  refine (HW.out _).mono ?_; rintro e w3 ⟨rfl, hb⟩
  go_wp2_with fail
  go_ret
  exact ⟨rfl, hb⟩
set_option maxHeartbeats 4000000 in
set_option maxRecDepth 100000 in
theorem checks_walk (HWk : Works) (e : Ex) (a : Option Addr) (c : Nat) (hok : okE e) (w : World) (hK : Kids w a e.args) :
    Calls Try.prog 4 #[exV e a c] w fun e' w' => e' = .returned (.bool true) ∧ Below w.heap.size w w' := by
  have hw := below_box w (exO e a c)
  have HS := Lib.hid (rsmallExpr_any e a c 600 (by omega) hok _ (hK.below hw))
  have HV : Hid (cE e ≤ 600 → ∀ w', Kids w' a e.args → Calls Try.prog 15 #[exV e a c] w' fun e' w'' => e' = .returned (.int .i64 (vE e 1)) ∧ Below w'.heap.size w' w'') := fun h w' hk => ovalidExpr_any e a c hok (by omega) w' hk
  have HR : Hid (∀ w', Kids w' a e.args → Calls Try.prog 16 #[exV e a c] w' fun e' w'' => e' = .returned (.int .i64 (vE e 1)) ∧ Below w'.heap.size w' w'') := fun w' hk => rvalidExpr_any e a c hok w' hk
  have HW := Lib.hid HWk
  have HK := Lib.hid hK
  have HB := Lib.hid hw
  have hx := Bx.new w #[.int .i64 e.op, .int .i64 e.n, .string e.s, .slice a e.args.length c] 27
  have HX := Lib.hid hx
  generalize vE e 1 = r at HV HR
  obtain ⟨sm, hsm⟩ : ∃ b, decide (cE e ≤ 600) = b := ⟨_, rfl⟩
  rw [hsm] at HS
  have HSM := Lib.hid hsm
  unfold exV at *
  unfold exO at *
  simp only [show ((600 : Nat) : Int) = 600 from rfl] at HS
  clear HWk hok hK hw hx hsm
  generalize e.args.length = m at *
  cases sm
  · go_enter Try.func4, Try.ntmps4
    go_wp2_with fail
    refine HS.out.mono ?_; rintro e1 w1 ⟨rfl, hb1⟩
    have HB1 := Lib.hid (below_2 HB.out hb1)
    clear hb1
    go_wp2_with fail
    refine (HW.out _).mono ?_; rintro e2 w2 ⟨rfl, hb2⟩
    go_wp2_with fail
    go_ret
    exact ⟨rfl, below_2 HB1.out hb2⟩
  · have hle := of_decide_eq_true HSM.out
    go_enter Try.func4, Try.ntmps4
    go_wp2_with fail
    refine HS.out.mono ?_; rintro e1 w1 ⟨rfl, hb1⟩
    have HX1 := HX.out.below hb1
    have x0 := HX1.cell 0
    have x1 := HX1.cell 1
    have x2 := HX1.cell 2
    have x3 := HX1.cell 3
    simp at x0 x1 x2 x3
    have HB1 := Lib.hid (below_2 HB.out hb1)
    clear hb1 HX1
    have HK1 := HK.out.below HB1.out
    have C1 := Lib.hid (fun d os => Calls.regrown_of (w := w1) (d := d) (os := os) (HV.out hle _ (HK1.below (below_regrown w1 d os))))
    have C2 := Lib.hid (fun d os => Calls.regrown_of (w := w1) (d := d) (os := os) (HR.out _ (HK1.below (below_regrown w1 d os))))
    have C3 := Lib.hid (fun d os => Calls.regrown_of (w := w1) (d := d) (os := os) (HW.out _))
    have r0 := fun d os => cell_regrown x0 d os
    have r1 := fun d os => cell_regrown x1 d os
    have r2 := fun d os => cell_regrown x2 d os
    have r3 := fun d os => cell_regrown x3 d os
    clear HK1 hle
    go_wp2_with fail
    refine wp_region_quiet_below (by kernel_rfl) (by kernel_rfl) ?_
    repeat (go_big_quiet_step (first | with_reducible exact C1.out _ _ | with_reducible exact C2.out _ _ | with_reducible exact C3.out _ _))
    refine wpQuiet_nil ?_
    intro _ hw'
    obtain ⟨⟨dq, osq⟩, hw''⟩ := hw'
    subst hw''
    go_wp2_with fail
    go_ret
    exact ⟨rfl, below_2 HB1.out (below_regrown _ _ _)⟩
/-- the box of a procedure -/
def prB (p : Pr) (a1 : Option Addr) (c1 : Nat) (a2 : Option Addr) (c2 : Nat) : Array Value := #[.string p.name, .slice a1 p.params.length c1, .slice a2 p.body.length c2]
theorem small_ok {p : Pr} {m : Nat} (h : small p m = true) : p.params.length ≤ 40 ∧ p.name.size ≤ 200 ∧ (∀ j (h : j < p.params.length), p.params[j].name.size ≤ 200) ∧ cB p.body ≤ m := by
  unfold small at h
  simp only [Bool.and_eq_true, decide_eq_true_eq] at h
  obtain ⟨⟨⟨h1, h2⟩, h3⟩, h4⟩ := h
  exact ⟨h1, h2, fun j hj => of_decide_eq_true (List.all_eq_true.1 h3 _ (List.getElem_mem hj)), h4⟩
theorem eqP_self (p : Pr) : eqP p p = true := (eqP_iff p p).2 rfl
theorem eqP_sym (p q : Pr) : eqP q p = eqP p q := by
  rw [Bool.eq_iff_iff, eqP_iff, eqP_iff]; exact eq_comm
set_option maxHeartbeats 8000000 in
set_option maxRecDepth 100000 in
theorem equals_walk (HWk : Works) (p q : Pr) (a1 a2 e1 e2 : Option Addr) (c1 c2 g1 g2 : Nat) (hok : OkP p) (hok2 : OkP q) (w : World) (hK : PrIn w p a1 a2) (hK2 : PrIn w q e1 e2) :
    Calls Try.prog 7 #[prV p a1 c1 a2 c2, prV q e1 g1 e2 g2] w fun e' w' => e' = .returned (.bool true) ∧ Below w.heap.size w w' := by
  have hb1 := below_box w (prO p a1 c1 a2 c2)
  have hb2 := below_box (w.alloc (prO p a1 c1 a2 c2)) (prO q e1 g1 e2 g2)
  have hw := below_2 hb1 hb2
  have hx1 := (Bx.new w #[.string p.name, .slice a1 p.params.length c1, .slice a2 p.body.length c2] 35).below hb2
  have hx2 := Bx.new (w.alloc (prO p a1 c1 a2 c2)) #[.string q.name, .slice e1 q.params.length g1, .slice e2 q.body.length g2] 35
  rw [show (w.alloc (prO p a1 c1 a2 c2)).heap.size = w.heap.size + 1 by simp] at hx2
  have HS1 : Hid (∀ w', PrIn w' p a1 a2 → Calls Try.prog 17 #[prV p a1 c1 a2 c2, .int .i64 600] w' fun e' w'' => e' = .returned (.bool (small p 600)) ∧ Below w'.heap.size w' w'') := fun w' h => rsmall_any p a1 c1 a2 c2 600 (by omega) hok w' h
  have HS2 : Hid (∀ w', PrIn w' q e1 e2 → Calls Try.prog 17 #[prV q e1 g1 e2 g2, .int .i64 600] w' fun e' w'' => e' = .returned (.bool (small q 600)) ∧ Below w'.heap.size w' w'') := fun w' h => rsmall_any q e1 g1 e2 g2 600 (by omega) hok2 w' h
  have HE : Hid (∀ w', PrIn w' p a1 a2 → PrIn w' q e1 e2 → Calls Try.prog 30 #[prV p a1 c1 a2 c2, prV q e1 g1 e2 g2] w' fun e' w'' => e' = .returned (.bool (eqP p q)) ∧ Below w'.heap.size w' w'') := fun w' h h2 => oequal_any p q a1 a2 e1 e2 c1 c2 g1 g2 hok hok2 w' h h2
  have HR : Hid (∀ w', PrIn w' p a1 a2 → PrIn w' q e1 e2 → Calls Try.prog 31 #[prV p a1 c1 a2 c2, prV q e1 g1 e2 g2] w' fun e' w'' => e' = .returned (.bool (eqP p q)) ∧ Below w'.heap.size w' w'') := fun w' h h2 => requal_any p q a1 a2 e1 e2 c1 c2 g1 g2 hok hok2 w' h h2
  have HF : Hid (∀ w', PrIn w' p a1 a2 → PrIn w' q e1 e2 → Calls Try.prog 30 #[prV q e1 g1 e2 g2, prV p a1 c1 a2 c2] w' fun e' w'' => e' = .returned (.bool (eqP p q)) ∧ Below w'.heap.size w' w'') := fun w' h h2 => by
    have := oequal_any q p e1 e2 a1 a2 g1 g2 c1 c2 hok2 hok w' h2 h
    rwa [eqP_sym] at this
  have HG : Hid (∀ w', PrIn w' p a1 a2 → Calls Try.prog 30 #[prV p a1 c1 a2 c2, prV p a1 c1 a2 c2] w' fun e' w'' => e' = .returned (.bool true) ∧ Below w'.heap.size w' w'') := fun w' h => by
    have := oequal_any p p a1 a2 a1 a2 c1 c2 c1 c2 hok hok w' h h
    rwa [eqP_self] at this
  have HW := Lib.hid HWk
  have HK := Lib.hid (hK.below hw)
  have HK2 := Lib.hid (hK2.below hw)
  have HB := Lib.hid hw
  have HX1 := Lib.hid hx1
  have HX2 := Lib.hid hx2
  generalize eqP p q = r at HE HR HF
  generalize small p 600 = s1 at HS1
  generalize small q 600 = s2 at HS2
  unfold prV at *
  unfold prO at *
  clear HWk hok hok2 hK hK2 hb1 hb2 hw hx1 hx2
  generalize p.params.length = m1 at *
  generalize p.body.length = m2 at *
  generalize q.params.length = m3 at *
  generalize q.body.length = m4 at *
  generalize p.name = n1 at *
  generalize q.name = n2 at *
  cases s1
  · go_enter Try.func7, Try.ntmps7
    go_wp2_with fail
    refine (HS1.out _ HK.out).mono ?_; rintro e' w1 ⟨rfl, hb1⟩
    have HB1 := Lib.hid (below_2 HB.out hb1)
    clear hb1
    go_wp2_with fail
    refine (HW.out _).mono ?_; rintro e' w2 ⟨rfl, hb2⟩
    go_wp2_with fail
    go_ret
    exact ⟨rfl, below_2 HB1.out hb2⟩
  · go_enter Try.func7, Try.ntmps7
    go_wp2_with fail
    refine (HS1.out _ HK.out).mono ?_; rintro e' w1 ⟨rfl, hb1⟩
    have HB1 := Lib.hid hb1
    have HY2 := HX2.out.below hb1
    have y0 := HY2.cell 0
    have y1 := HY2.cell 1
    have y2 := HY2.cell 2
    simp at y0 y1 y2
    clear hb1 HY2
    cases s2
    · go_wp2_with fail
      refine (HS2.out _ (HK2.out.below HB1.out)).mono ?_; rintro e' w2 ⟨rfl, hb2⟩
      have HB2 := Lib.hid (below_2 (below_2 HB.out HB1.out) hb2)
      clear hb2
      go_wp2_with fail
      refine (HW.out _).mono ?_; rintro e' w3 ⟨rfl, hb3⟩
      go_wp2_with fail
      go_ret
      exact ⟨rfl, below_2 HB2.out hb3⟩
    · go_wp2_with fail
      refine (HS2.out _ (HK2.out.below HB1.out)).mono ?_; rintro e' w2 ⟨rfl, hb2⟩
      have HB2 := Lib.hid (below_2 HB1.out hb2)
      have hX := HX1.out.below HB2.out
      have hY := HX2.out.below HB2.out
      have x0 := hX.cell 0
      have x1 := hX.cell 1
      have x2 := hX.cell 2
      have z0 := hY.cell 0
      have z1 := hY.cell 1
      have z2 := hY.cell 2
      simp at x0 x1 x2 z0 z1 z2
      have hk1 := HK.out.below HB2.out
      have hk2 := HK2.out.below HB2.out
      have C1 := Lib.hid (fun d os => Calls.regrown_of (w := w2) (d := d) (os := os) (HE.out _ (hk1.below (below_regrown w2 d os)) (hk2.below (below_regrown w2 d os))))
      have C2 := Lib.hid (fun d os => Calls.regrown_of (w := w2) (d := d) (os := os) (HR.out _ (hk1.below (below_regrown w2 d os)) (hk2.below (below_regrown w2 d os))))
      have C3 := Lib.hid (fun d os => Calls.regrown_of (w := w2) (d := d) (os := os) (HF.out _ (hk1.below (below_regrown w2 d os)) (hk2.below (below_regrown w2 d os))))
      have C4 := Lib.hid (fun d os => Calls.regrown_of (w := w2) (d := d) (os := os) (HG.out _ (hk1.below (below_regrown w2 d os))))
      have C5 := Lib.hid (fun d os => Calls.regrown_of (w := w2) (d := d) (os := os) (HW.out _))
      have r0 := fun d os => cell_regrown x0 d os
      have r1 := fun d os => cell_regrown x1 d os
      have r2 := fun d os => cell_regrown x2 d os
      have r3 := fun d os => cell_regrown z0 d os
      have r4 := fun d os => cell_regrown z1 d os
      have r5 := fun d os => cell_regrown z2 d os
      have HB3 := Lib.hid (below_2 HB.out HB2.out)
      clear hb2 hX hY hk1 hk2 y0 y1 y2
      go_wp2_with fail
      cases r
      all_goals
        refine wp_region_quiet_below (by kernel_rfl) (by kernel_rfl) ?_
        repeat (go_big_quiet_step (first | with_reducible exact C1.out _ _ | with_reducible exact C2.out _ _ | with_reducible exact C3.out _ _ | with_reducible exact C4.out _ _ | with_reducible exact C5.out _ _))
        refine wpQuiet_nil ?_
        intro _ hw'
        obtain ⟨⟨dq, osq⟩, hw''⟩ := hw'
        subst hw''
        go_wp2_with fail
        go_ret
        exact ⟨rfl, below_2 HB3.out (below_regrown _ _ _)⟩
end Go.Proofs.Ytffamknoamknpaa.A
namespace Go.Proofs.Ytffamknoamknpaa.A
open Go.RowKit
open L (Str isName prt size_len below_2 below_box ret_bool ret_int eql_eq bytes_eq)

/-- what the reach gives of a node that is an expression -/
def VE (n : Nat) : V → Prop
  | .st _ _ => True
  | .ex e _ => okE e ∧ cE e ≤ n
mutual
theorem preE_ve (n : Nat) : ∀ (e : Ex) (r : Bool), okE e → cE e ≤ n → ∀ v ∈ preE e r, VE n v
  | .mk o m s l, r, hok, hc, v, h => by
    rw [preE] at h
    rcases List.mem_cons.1 h with rfl | h
    · exact ⟨hok, hc⟩
    · rw [okE] at hok
      rw [cE] at hc
      exact preEs_ve n l hok.2.2.2.2 (by omega) v h
theorem preEs_ve (n : Nat) : ∀ (l : List Ex), okEs l → cEs l ≤ n → ∀ v ∈ preEs l, VE n v
  | [], _, _, v, h => by rw [preEs] at h; cases h
  | e :: r, hok, hc, v, h => by
    rw [okEs] at hok
    rw [cEs] at hc
    rw [preEs] at h
    rcases List.mem_append.1 h with h | h
    · exact preE_ve n e false hok.1 (by omega) v h
    · exact preEs_ve n r hok.2 (by omega) v h
end
theorem preR_ve (n : Nat) (e : Ex) (hok : okE e) (hc : cE e ≤ n) : ∀ v ∈ preR e, VE n v := by
  intro v h
  unfold preR at h
  split at h
  · cases h
  · exact preE_ve n e true hok hc v h
mutual
theorem preS_ve (n : Nat) : ∀ (s : St) (d : Nat), okS s → cS s ≤ n → ∀ v ∈ preS s d, VE n v
  | .mk o nm mx a b bd el, d, hok, hc, v, h => by
    rw [okS] at hok
    obtain ⟨_, _, _, h1, h2, _, h3, _, h4⟩ := hok
    rw [cS] at hc
    rw [preS] at h
    rcases List.mem_cons.1 h with rfl | h
    · trivial
    rcases List.mem_append.1 h with h | h
    · rcases List.mem_append.1 h with h | h
      · rcases List.mem_append.1 h with h | h
        · exact preR_ve n a h1 (by omega) v h
        · exact preR_ve n b h2 (by omega) v h
      · exact preB_ve n bd (d + 1) h3 (by omega) v h
    · exact preB_ve n el (d + 1) h4 (by omega) v h
theorem preB_ve (n : Nat) : ∀ (l : List St) (d : Nat), okB l → cB l ≤ n → ∀ v ∈ preB l d, VE n v
  | [], d, _, _, v, h => by rw [preB] at h; cases h
  | s :: r, d, hok, hc, v, h => by
    rw [okB] at hok
    rw [cB] at hc
    rw [preB] at h
    rcases List.mem_append.1 h with h | h
    · exact preS_ve n s d hok.1 (by omega) v h
    · exact preB_ve n r d hok.2 (by omega) v h
end
theorem exprs_ve {p : Pr} (hok : okB p.body) : ∀ e ∈ exprs p, okE e ∧ cE e ≤ cB p.body := fun e h => by
  unfold exprs at h
  obtain ⟨v, hv, he⟩ := List.mem_filterMap.1 h
  have hve := preB_ve (cB p.body) p.body 1 hok (Nat.le_refl _) v (List.mem_of_mem_take (by unfold walk at hv; exact hv))
  cases v with
  | st s d => cases he
  | ex x r =>
    cases r
    · cases he
    · injection he with he; subst he; exact hve
theorem exprs_len (p : Pr) : (exprs p).length ≤ 401 := by
  unfold exprs
  have h := List.length_filterMap_le V.rooted (walk p)
  have h2 : (walk p).length ≤ 401 := by unfold walk; rw [List.length_take]; omega
  omega
theorem names_le (p : Pr) : (names p).length ≤ p.params.length + 401 := by
  unfold names
  rw [List.length_append, List.length_map]
  have h := List.length_filterMap_le V.decl (walk p)
  have h2 : (walk p).length ≤ 401 := by unfold walk; rw [List.length_take]; omega
  omega
set_option maxHeartbeats 4000000 in
set_option maxRecDepth 100000 in
theorem texts_any (l : List ByteArray) (a : Option Addr) (c : Nat) (b : Option Addr) (d : Nat) (hl : l.length ≤ 1000000) (w : World) (hA : StrsAt w a l) (hB : StrsAt w b l) :
    Calls Try.prog 26 #[.slice a l.length c, .slice b l.length d] w fun e w' => e = .returned (.bool true) ∧ Below w.heap.size w w' := by
  have HA := Lib.hid hA
  have HB := Lib.hid hB
  clear hA hB
  obtain ⟨n, hn⟩ : ∃ n, l.length = n := ⟨_, rfl⟩
  have HL := Lib.hid hn
  rw [hn] at hl ⊢
  clear hn
  go_enter Try.func26, Try.ntmps26
  go_wp2_with fail
  go_loopw [5] (fun s5 wr => ∃ k : Nat, k ≤ n ∧ s5 = .int .i64 k ∧ Hid (Below w.heap.size w wr)) (fun s5 _ => n - (intOf s5).toNat)
  case atStart => exact ⟨0, Nat.zero_le _, rfl, Below.refl _ _⟩
  case round =>
    obtain ⟨k, hk, rfl, HW⟩ := hrel
    by_cases hlt : k < n
    · have hlx : k < l.length := by rw [HL.out]; exact hlt
      obtain ⟨b1, i1, rfl, h1⟩ := (HA.out.below HW.out).open hlx
      obtain ⟨b2, i2, rfl, h2⟩ := (HB.out.below HW.out).open hlx
      have d1 := h1 k hlx
      have d2 := h2 k hlx
      generalize l[k] = x at d1 d2
      have hx : (!(x.toList == x.toList)) = false := by simp
      clear h1 h2
      go_wp2_with fail
      go_region
      all_goals
        go_wp2_with fail
        go_roundw
        case rel => exact ⟨k + 1, by omega, by go_num, below_2 HW.out (L.below_drew _)⟩
        case measure => simp [intOf]; omega
    · go_wp2_with fail
      go_ret
      exact ⟨rfl, HW.out⟩
end Go.Proofs.Ytffamknoamknpaa.A
namespace Go.Proofs.Ytffamknoamknpaa.A
open Go.RowKit
open L (Str isName prt size_len below_2 below_box ret_bool ret_int eql_eq bytes_eq)

/-- a procedure that is small -/
structure SmP (p : Pr) (m : Nat) : Prop where
  params : p.params.length ≤ 40
  name : p.name.size ≤ 200
  each : ∀ j (h : j < p.params.length), p.params[j].name.size ≤ 200
  body : cB p.body ≤ m
set_option maxHeartbeats 4000000 in
set_option maxRecDepth 100000 in
theorem walks_walk (HWk : Works) (HE : OExprs) (p : Pr) (a1 a2 : Option Addr) (c1 c2 : Nat) (hok : OkP p) (w : World) (hK : PrIn w p a1 a2) :
    Calls Try.prog 6 #[prV p a1 c1 a2 c2] w fun e' w' => e' = .returned (.bool true) ∧ Below w.heap.size w w' := by
  have hw := below_box w (prO p a1 c1 a2 c2)
  have hx := Bx.new w #[.string p.name, .slice a1 p.params.length c1, .slice a2 p.body.length c2] 35
  have HS := Lib.hid (rsmall_any p a1 c1 a2 c2 1600 (by omega) hok _ (hK.below hw))
  have HSM : Hid (small p 1600 = true → SmP p 1600) := fun h => ⟨(small_ok h).1, (small_ok h).2.1, (small_ok h).2.2.1, (small_ok h).2.2.2⟩
  have HEx : Hid (SmP p 1600 → ∀ w', PrIn w' p a1 a2 → Calls Try.prog 20 #[prV p a1 c1 a2 c2] w' fun e' w'' => GivesXs w' (exprs p) e' w'') := fun h w' hk => HE p a1 a2 c1 c2 hok (by have := h.body; omega) w' hk
  have HRx : Hid (∀ w', PrIn w' p a1 a2 → Calls Try.prog 21 #[prV p a1 c1 a2 c2] w' fun e' w'' => GivesXs w' (exprs p) e' w'') := fun w' hk => rexprs_any p a1 a2 c1 c2 hok.body hok.bodyLen w' hk.body
  have HNo : Hid (SmP p 1600 → ∀ w', PrIn w' p a1 a2 → Calls Try.prog 22 #[prV p a1 c1 a2 c2] w' fun e' w'' => e' = .returned (.int .i64 (nodes p : Int)) ∧ Below w'.heap.size w' w'') := fun h w' hk => onodes_any p a1 a2 c1 c2 hok.body hok.bodyLen (by have := h.body; omega) w' hk.body
  have HRn : Hid (∀ w', PrIn w' p a1 a2 → Calls Try.prog 23 #[prV p a1 c1 a2 c2] w' fun e' w'' => e' = .returned (.int .i64 (nodes p : Int)) ∧ Below w'.heap.size w' w'') := fun w' hk => rnodes_any p a1 a2 c1 c2 hok.body hok.bodyLen w' hk.body
  have HDe : Hid (SmP p 1600 → ∀ w', PrIn w' p a1 a2 → Calls Try.prog 24 #[prV p a1 c1 a2 c2] w' fun e' w'' => e' = .returned (.int .i64 (depth p : Int)) ∧ Below w'.heap.size w' w'') := fun h w' hk => odepth_any p a1 a2 c1 c2 hok.body hok.bodyLen (by have := h.body; omega) w' hk.body
  have HRd : Hid (∀ w', PrIn w' p a1 a2 → Calls Try.prog 25 #[prV p a1 c1 a2 c2] w' fun e' w'' => e' = .returned (.int .i64 (depth p : Int)) ∧ Below w'.heap.size w' w'') := fun w' hk => rdepth_any p a1 a2 c1 c2 hok.body hok.bodyLen w' hk.body
  have HNa : Hid (SmP p 1600 → ∀ w', PrIn w' p a1 a2 → Calls Try.prog 27 #[prV p a1 c1 a2 c2] w' fun e' w'' => GivesN w' (names p) e' w'') := fun h w' hk => onames_any p a1 a2 c1 c2 hok (by have := h.body; omega) (by have := h.params; omega) (fun j hj => by have := h.each j hj; omega) w' hk
  have HRa : Hid (SmP p 1600 → ∀ w', PrIn w' p a1 a2 → Calls Try.prog 28 #[prV p a1 c1 a2 c2] w' fun e' w'' => GivesN w' (names p) e' w'') := fun h w' hk => rnames_any p a1 a2 c1 c2 hok (by have := h.params; omega) w' hk
  have HT : Hid (∀ (q1 : Option Addr) (x1 : Nat) (q2 : Option Addr) (x2 : Nat) (w' : World), SmP p 1600 → StrsAt w' q1 (names p) → StrsAt w' q2 (names p) → Calls Try.prog 26 #[.slice q1 (names p).length x1, .slice q2 (names p).length x2] w' fun e w'' => e = .returned (.bool true) ∧ Below w'.heap.size w' w'') := fun q1 x1 q2 x2 w' h h1 h2 => texts_any (names p) q1 x1 q2 x2 (by have := names_le p; have := h.params; omega) w' h1 h2
  have HQ : Hid (∀ (e : Ex) (q1 : Option Addr) (x1 : Nat) (q2 : Option Addr) (x2 : Nat) (w' : World), e ∈ exprs p → Kids w' q1 e.args → Kids w' q2 e.args → Calls Try.prog 29 #[exV e q1 x1, exV e q2 x2] w' fun e' w'' => e' = .returned (.bool true) ∧ Below w'.heap.size w' w'') := fun e q1 x1 q2 x2 w' hm h1 h2 => by
    have h := requalExpr_any e e q1 x1 q2 x2 (exprs_ve hok.body e hm).1 (exprs_ve hok.body e hm).1 w' h1 h2
    rw [(eqE_iff e e).2 rfl] at h
    exact h
  have HEL := Lib.hid (exprs_len p)
  have HW := Lib.hid HWk
  have HK0 := Lib.hid (hK.below hw)
  have HB0 := Lib.hid hw
  have HX0 := Lib.hid hx
  clear HWk HE hok hK hw hx
  generalize exprs p = xs at *
  generalize names p = ns at *
  generalize nodes p = nn at *
  generalize depth p = nd at *
  generalize small p 1600 = sm at *
  unfold prV at *
  unfold prO at *
  obtain ⟨m1, hm1⟩ : ∃ m, p.params.length = m := ⟨_, rfl⟩
  obtain ⟨m2, hm2⟩ : ∃ m, p.body.length = m := ⟨_, rfl⟩
  obtain ⟨n1, hn1⟩ : ∃ m, p.name = m := ⟨_, rfl⟩
  simp only [hm1, hm2, hn1, show ((1600 : Nat) : Int) = 1600 from rfl] at HS HEx HRx HNo HRn HDe HRd HNa HRa HX0 HB0 HK0 ⊢
  clear hm1 hm2 hn1
  cases sm
  · go_enter Try.func6, Try.ntmps6
    go_wp2_with fail
    refine HS.out.mono ?_; rintro e1 w1 ⟨rfl, hb1⟩
    have HB1 := Lib.hid (below_2 HB0.out hb1)
    clear hb1
    go_wp2_with fail
    refine (HW.out _).mono ?_; rintro e2 w2 ⟨rfl, hb2⟩
    go_wp2_with fail
    go_ret
    exact ⟨rfl, below_2 HB1.out hb2⟩
  · have HS3 := Lib.hid (HSM.out (by trivial))
    clear HSM
    go_enter Try.func6, Try.ntmps6
    go_wp2_with fail
    refine HS.out.mono ?_; rintro e1 w1 ⟨rfl, hb1⟩
    have HBw1 := Lib.hid (below_2 HB0.out hb1)
    have HKw1 := Lib.hid (HK0.out.below hb1)
    have HXw1 := Lib.hid (HX0.out.below hb1)
    have hSw1 : w1.cell? ⟨w.heap.size, 0, none⟩ = some (.string n1) ∧ w1.cell? ⟨w.heap.size, 1, none⟩ = some (.slice a1 m1 c1) ∧ w1.cell? ⟨w.heap.size, 2, none⟩ = some (.slice a2 m2 c2) := ⟨HXw1.out.cell 0, HXw1.out.cell 1, HXw1.out.cell 2⟩
    have hSd1 : w1.drew.cell? ⟨w.heap.size, 0, none⟩ = some (.string n1) ∧ w1.drew.cell? ⟨w.heap.size, 1, none⟩ = some (.slice a1 m1 c1) ∧ w1.drew.cell? ⟨w.heap.size, 2, none⟩ = some (.slice a2 m2 c2) := hSw1
    clear hb1
    go_wp2_with fail
    go_region_held3 (fun w' => w'.cell? ⟨w.heap.size, 0, none⟩ = some (.string n1) ∧ w'.cell? ⟨w.heap.size, 1, none⟩ = some (.slice a1 m1 c1) ∧ w'.cell? ⟨w.heap.size, 2, none⟩ = some (.slice a2 m2 c2)) (with_reducible (first | exact hSd1 | exact hSw2 | exact hSw3 | fail))
      (first
        | (go_at_call 20; (with_reducible refine (HEx.out HS3.out _ (HKw1.out.below (L.below_drew w1))).mono ?_); rintro e' w2 ⟨pa, qa, rfl, hka, hb2⟩; have hbb := below_2 (L.below_drew w1) hb2; have HA2 := Lib.hid hka; have HBw2 := Lib.hid (below_2 HBw1.out hbb); have HKw2 := Lib.hid (HKw1.out.below hbb); have HXw2 := Lib.hid (HXw1.out.below hbb); have hSw2 : w2.cell? ⟨w.heap.size, 0, none⟩ = some (.string n1) ∧ w2.cell? ⟨w.heap.size, 1, none⟩ = some (.slice a1 m1 c1) ∧ w2.cell? ⟨w.heap.size, 2, none⟩ = some (.slice a2 m2 c2) := ⟨HXw2.out.cell 0, HXw2.out.cell 1, HXw2.out.cell 2⟩; clear hbb hb2 hka)
        | (go_at_call 21; (with_reducible refine (HRx.out _ HKw2.out).mono ?_); rintro e' w3 ⟨pb, qb, rfl, hkb, hb3⟩; have HA3 := Lib.hid (HA2.out.below hb3); have HR3 := Lib.hid hkb; have HBw3 := Lib.hid (below_2 HBw2.out hb3); have HKw3 := Lib.hid (HKw2.out.below hb3); have HXw3 := Lib.hid (HXw2.out.below hb3); have hSw3 : w3.cell? ⟨w.heap.size, 0, none⟩ = some (.string n1) ∧ w3.cell? ⟨w.heap.size, 1, none⟩ = some (.slice a1 m1 c1) ∧ w3.cell? ⟨w.heap.size, 2, none⟩ = some (.slice a2 m2 c2) := ⟨HXw3.out.cell 0, HXw3.out.cell 1, HXw3.out.cell 2⟩; clear hb3 hkb))
    have hSd3 : w3.drew.cell? ⟨w.heap.size, 0, none⟩ = some (.string n1) ∧ w3.drew.cell? ⟨w.heap.size, 1, none⟩ = some (.slice a1 m1 c1) ∧ w3.drew.cell? ⟨w.heap.size, 2, none⟩ = some (.slice a2 m2 c2) := hSw3
    go_wp2_with fail
    go_region_held3 (fun w' => w'.cell? ⟨w.heap.size, 0, none⟩ = some (.string n1) ∧ w'.cell? ⟨w.heap.size, 1, none⟩ = some (.slice a1 m1 c1) ∧ w'.cell? ⟨w.heap.size, 2, none⟩ = some (.slice a2 m2 c2)) (with_reducible (first | exact hSd3 | exact hSw4 | exact hSw5 | exact hSw6 | exact hSw7 | exact hSw8 | exact hSw9 | exact hSw10 | fail))
      (first
        | (go_at_call 22; (with_reducible refine (HNo.out HS3.out _ (HKw3.out.below (L.below_drew w3))).mono ?_); rintro e' w4 ⟨rfl, hb⟩; have hbb := below_2 (L.below_drew w3) hb; have HA4 := Lib.hid (HA3.out.below hbb); have HR4 := Lib.hid (HR3.out.below hbb); have HBw4 := Lib.hid (below_2 HBw3.out hbb); have HKw4 := Lib.hid (HKw3.out.below hbb); have HXw4 := Lib.hid (HXw3.out.below hbb); have hSw4 : w4.cell? ⟨w.heap.size, 0, none⟩ = some (.string n1) ∧ w4.cell? ⟨w.heap.size, 1, none⟩ = some (.slice a1 m1 c1) ∧ w4.cell? ⟨w.heap.size, 2, none⟩ = some (.slice a2 m2 c2) := ⟨HXw4.out.cell 0, HXw4.out.cell 1, HXw4.out.cell 2⟩; clear hb hbb)
        | (go_at_call 23; (with_reducible refine (HRn.out _ HKw4.out).mono ?_); rintro e' w5 ⟨rfl, hb⟩; have HA5 := Lib.hid (HA4.out.below hb); have HR5 := Lib.hid (HR4.out.below hb); have HBw5 := Lib.hid (below_2 HBw4.out hb); have HKw5 := Lib.hid (HKw4.out.below hb); have HXw5 := Lib.hid (HXw4.out.below hb); have hSw5 : w5.cell? ⟨w.heap.size, 0, none⟩ = some (.string n1) ∧ w5.cell? ⟨w.heap.size, 1, none⟩ = some (.slice a1 m1 c1) ∧ w5.cell? ⟨w.heap.size, 2, none⟩ = some (.slice a2 m2 c2) := ⟨HXw5.out.cell 0, HXw5.out.cell 1, HXw5.out.cell 2⟩; clear hb)
        | (go_at_call 24; (with_reducible refine (HDe.out HS3.out _ HKw5.out).mono ?_); rintro e' w6 ⟨rfl, hb⟩; have HA6 := Lib.hid (HA5.out.below hb); have HR6 := Lib.hid (HR5.out.below hb); have HBw6 := Lib.hid (below_2 HBw5.out hb); have HKw6 := Lib.hid (HKw5.out.below hb); have HXw6 := Lib.hid (HXw5.out.below hb); have hSw6 : w6.cell? ⟨w.heap.size, 0, none⟩ = some (.string n1) ∧ w6.cell? ⟨w.heap.size, 1, none⟩ = some (.slice a1 m1 c1) ∧ w6.cell? ⟨w.heap.size, 2, none⟩ = some (.slice a2 m2 c2) := ⟨HXw6.out.cell 0, HXw6.out.cell 1, HXw6.out.cell 2⟩; clear hb)
        | (go_at_call 25; (with_reducible refine (HRd.out _ HKw6.out).mono ?_); rintro e' w7 ⟨rfl, hb⟩; have HA7 := Lib.hid (HA6.out.below hb); have HR7 := Lib.hid (HR6.out.below hb); have HBw7 := Lib.hid (below_2 HBw6.out hb); have HKw7 := Lib.hid (HKw6.out.below hb); have HXw7 := Lib.hid (HXw6.out.below hb); have hSw7 : w7.cell? ⟨w.heap.size, 0, none⟩ = some (.string n1) ∧ w7.cell? ⟨w.heap.size, 1, none⟩ = some (.slice a1 m1 c1) ∧ w7.cell? ⟨w.heap.size, 2, none⟩ = some (.slice a2 m2 c2) := ⟨HXw7.out.cell 0, HXw7.out.cell 1, HXw7.out.cell 2⟩; clear hb)
        | (go_at_call 27; (with_reducible refine (HNa.out HS3.out _ HKw7.out).mono ?_); rintro e' w8 ⟨pn, qn, rfl, _, hn, hb⟩; have HA8 := Lib.hid (HA7.out.below hb); have HR8 := Lib.hid (HR7.out.below hb); have HBw8 := Lib.hid (below_2 HBw7.out hb); have HKw8 := Lib.hid (HKw7.out.below hb); have HXw8 := Lib.hid (HXw7.out.below hb); have hSw8 : w8.cell? ⟨w.heap.size, 0, none⟩ = some (.string n1) ∧ w8.cell? ⟨w.heap.size, 1, none⟩ = some (.slice a1 m1 c1) ∧ w8.cell? ⟨w.heap.size, 2, none⟩ = some (.slice a2 m2 c2) := ⟨HXw8.out.cell 0, HXw8.out.cell 1, HXw8.out.cell 2⟩; have HN8 := Lib.hid hn; clear hn; clear hb)
        | (go_at_call 28; (with_reducible refine (HRa.out HS3.out _ HKw8.out).mono ?_); rintro e' w9 ⟨pm, qm, rfl, _, hn, hb⟩; have HA9 := Lib.hid (HA8.out.below hb); have HR9 := Lib.hid (HR8.out.below hb); have HBw9 := Lib.hid (below_2 HBw8.out hb); have HKw9 := Lib.hid (HKw8.out.below hb); have HXw9 := Lib.hid (HXw8.out.below hb); have hSw9 : w9.cell? ⟨w.heap.size, 0, none⟩ = some (.string n1) ∧ w9.cell? ⟨w.heap.size, 1, none⟩ = some (.slice a1 m1 c1) ∧ w9.cell? ⟨w.heap.size, 2, none⟩ = some (.slice a2 m2 c2) := ⟨HXw9.out.cell 0, HXw9.out.cell 1, HXw9.out.cell 2⟩; have HN9 := Lib.hid hn; have HN89 := Lib.hid (HN8.out.below hb); clear hn; clear hb)
        | (go_at_call 26; (with_reducible refine (HT.out pn qn pm qm _ HS3.out HN89.out HN9.out).mono ?_); rintro e' w10 ⟨rfl, hb⟩; have HA10 := Lib.hid (HA9.out.below hb); have HR10 := Lib.hid (HR9.out.below hb); have HBw10 := Lib.hid (below_2 HBw9.out hb); have HKw10 := Lib.hid (HKw9.out.below hb); have HXw10 := Lib.hid (HXw9.out.below hb); have hSw10 : w10.cell? ⟨w.heap.size, 0, none⟩ = some (.string n1) ∧ w10.cell? ⟨w.heap.size, 1, none⟩ = some (.slice a1 m1 c1) ∧ w10.cell? ⟨w.heap.size, 2, none⟩ = some (.slice a2 m2 c2) := ⟨HXw10.out.cell 0, HXw10.out.cell 1, HXw10.out.cell 2⟩; clear hb))
    go_wp2_with fail
    have hel := HEL.out
    obtain ⟨m, hm⟩ : ∃ m, xs.length = m := ⟨_, rfl⟩
    have HM := Lib.hid hm
    rw [hm] at hel
    simp only [hm]
    clear hm
    go_loopw [5] (fun s5 wr => ∃ k : Nat, k ≤ m ∧ s5 = .int .i64 k ∧ Hid (Below w10.heap.size w10 wr)) (fun s5 _ => m - (intOf s5).toNat)
    case atStart => exact ⟨0, Nat.zero_le _, rfl, Below.refl _ _⟩
    case round =>
      obtain ⟨k, hk, rfl, HBr⟩ := hrel
      by_cases hlt : k < m
      · have hlx : k < xs.length := by rw [HM.out]; exact hlt
        have hmem : xs[k] ∈ xs := List.getElem_mem hlx
        obtain ⟨b1, i1, rfl, h1⟩ := (HA10.out.below HBr.out).open hlx
        obtain ⟨b2, i2, rfl, h2⟩ := (HR10.out.below HBr.out).open hlx
        generalize xs[k] = x at hmem h1 h2
        obtain ⟨d0, d1, d2, r1, s1, d3, hk1⟩ := h1.open
        obtain ⟨f0, f1, f2, r2, s2, f3, hk2⟩ := h2.open
        have hrd := L.below_drew wr
        have HQ1 := Lib.hid (HQ.out x r1 s1 r2 s2 _ hmem (hk1.below hrd) (hk2.below hrd))
        unfold exV at HQ1
        clear h1 h2 hk1 hk2 hmem hrd
        generalize x.args.length = ml at *
        generalize x.op = xo at *
        generalize x.n = xn at *
        generalize x.s = xstr at *
        have hSd : wr.drew.cell? ⟨b1, i1 + k * 4, none⟩ = some (.int .i64 xo) ∧ wr.drew.cell? ⟨b1, i1 + k * 4 + 1, none⟩ = some (.int .i64 xn) ∧ wr.drew.cell? ⟨b1, i1 + k * 4 + 2, none⟩ = some (.string xstr) ∧ wr.drew.cell? ⟨b1, i1 + k * 4 + 3, none⟩ = some (.slice r1 ml s1) ∧ wr.drew.cell? ⟨b2, i2 + k * 4, none⟩ = some (.int .i64 xo) ∧ wr.drew.cell? ⟨b2, i2 + k * 4 + 1, none⟩ = some (.int .i64 xn) ∧ wr.drew.cell? ⟨b2, i2 + k * 4 + 2, none⟩ = some (.string xstr) ∧ wr.drew.cell? ⟨b2, i2 + k * 4 + 3, none⟩ = some (.slice r2 ml s2) := ⟨d0, d1, d2, d3, f0, f1, f2, f3⟩
        go_wp2_with fail
        go_region_held3 (fun w' => w'.cell? ⟨b1, i1 + k * 4, none⟩ = some (.int .i64 xo) ∧ w'.cell? ⟨b1, i1 + k * 4 + 1, none⟩ = some (.int .i64 xn) ∧ w'.cell? ⟨b1, i1 + k * 4 + 2, none⟩ = some (.string xstr) ∧ w'.cell? ⟨b1, i1 + k * 4 + 3, none⟩ = some (.slice r1 ml s1) ∧ w'.cell? ⟨b2, i2 + k * 4, none⟩ = some (.int .i64 xo) ∧ w'.cell? ⟨b2, i2 + k * 4 + 1, none⟩ = some (.int .i64 xn) ∧ w'.cell? ⟨b2, i2 + k * 4 + 2, none⟩ = some (.string xstr) ∧ w'.cell? ⟨b2, i2 + k * 4 + 3, none⟩ = some (.slice r2 ml s2)) (with_reducible (first | exact hSd | exact hSq | fail))
          ((go_at_call 29; (with_reducible refine HQ1.out.mono ?_); rintro e' wq ⟨rfl, hbq⟩; have HBq := Lib.hid (below_2 (L.below_drew wr) hbq); have hbx := HBq.out; have hSq : wq.cell? ⟨b1, i1 + k * 4, none⟩ = some (.int .i64 xo) ∧ wq.cell? ⟨b1, i1 + k * 4 + 1, none⟩ = some (.int .i64 xn) ∧ wq.cell? ⟨b1, i1 + k * 4 + 2, none⟩ = some (.string xstr) ∧ wq.cell? ⟨b1, i1 + k * 4 + 3, none⟩ = some (.slice r1 ml s1) ∧ wq.cell? ⟨b2, i2 + k * 4, none⟩ = some (.int .i64 xo) ∧ wq.cell? ⟨b2, i2 + k * 4 + 1, none⟩ = some (.int .i64 xn) ∧ wq.cell? ⟨b2, i2 + k * 4 + 2, none⟩ = some (.string xstr) ∧ wq.cell? ⟨b2, i2 + k * 4 + 3, none⟩ = some (.slice r2 ml s2) := ⟨(hbx.cell (block_lt_of_cell d0)).trans d0, (hbx.cell (block_lt_of_cell d1)).trans d1, (hbx.cell (block_lt_of_cell d2)).trans d2, (hbx.cell (block_lt_of_cell d3)).trans d3, (hbx.cell (block_lt_of_cell f0)).trans f0, (hbx.cell (block_lt_of_cell f1)).trans f1, (hbx.cell (block_lt_of_cell f2)).trans f2, (hbx.cell (block_lt_of_cell f3)).trans f3⟩; clear hbq hbx))
        go_wp2_with fail
        go_roundw
        case rel => exact ⟨k + 1, by omega, by go_num, below_2 HBr.out HBq.out⟩
        case measure => simp [intOf]; omega
      · have HBB := Lib.hid (below_2 HBw10.out HBr.out)
        go_wp2_with fail
        refine (HW.out _).mono ?_; rintro e' w11 ⟨rfl, hb11⟩
        go_wp2_with fail
        go_ret
        exact ⟨rfl, below_2 HBB.out hb11⟩
end Go.Proofs.Ytffamknoamknpaa.A
namespace Go.Proofs.Ytffamknoamknpaa.A
open Go.RowKit
open L (Str isName prt size_len below_2 below_box ret_bool ret_int eql_eq bytes_eq)

set_option maxHeartbeats 16000000 in
set_option maxRecDepth 100000 in
theorem bounds_walk (HWk : Works) (HE : OExprs) (p : Pr) (a1 a2 : Option Addr) (c1 c2 : Nat) (hok : OkP p) (hc1 : p.params.length ≤ c1) (w : World) (hK : PrIn w p a1 a2) :
    Calls Try.prog 10 #[prV p a1 c1 a2 c2] w fun e' w' => e' = .returned (.bool true) ∧ Below w.heap.size w w' := by
  have hw := below_box w (prO p a1 c1 a2 c2)
  have hx := Bx.new w #[.string p.name, .slice a1 p.params.length c1, .slice a2 p.body.length c2] 35
  have HS := Lib.hid (rsmall_any p a1 c1 a2 c2 1600 (by omega) hok _ (hK.below hw))
  have HSM : Hid (small p 1600 = true → SmP p 1600) := fun h => ⟨(small_ok h).1, (small_ok h).2.1, (small_ok h).2.2.1, (small_ok h).2.2.2⟩
  have HV : Hid (SmP p 1600 → ∀ w', PrIn w' p a1 a2 → Calls Try.prog 18 #[prV p a1 c1 a2 c2] w' fun e' w'' => e' = .returned (.int .i64 (valE p)) ∧ Below w'.heap.size w' w'') := fun h w' hk => ovalidate_any p a1 a2 c1 c2 hok (by have := h.body; omega) hc1 w' hk
  have HEx : Hid (SmP p 1600 → ∀ w', PrIn w' p a1 a2 → Calls Try.prog 20 #[prV p a1 c1 a2 c2] w' fun e' w'' => GivesXs w' (exprs p) e' w'') := fun h w' hk => HE p a1 a2 c1 c2 hok (by have := h.body; omega) w' hk
  have HNo : Hid (SmP p 1600 → ∀ w', PrIn w' p a1 a2 → Calls Try.prog 22 #[prV p a1 c1 a2 c2] w' fun e' w'' => e' = .returned (.int .i64 (nodes p : Int)) ∧ Below w'.heap.size w' w'') := fun h w' hk => onodes_any p a1 a2 c1 c2 hok.body hok.bodyLen (by have := h.body; omega) w' hk.body
  have HRn : Hid (∀ w', PrIn w' p a1 a2 → Calls Try.prog 23 #[prV p a1 c1 a2 c2] w' fun e' w'' => e' = .returned (.int .i64 (nodes p : Int)) ∧ Below w'.heap.size w' w'') := fun w' hk => rnodes_any p a1 a2 c1 c2 hok.body hok.bodyLen w' hk.body
  have HDe : Hid (SmP p 1600 → ∀ w', PrIn w' p a1 a2 → Calls Try.prog 24 #[prV p a1 c1 a2 c2] w' fun e' w'' => e' = .returned (.int .i64 (depth p : Int)) ∧ Below w'.heap.size w' w'') := fun h w' hk => odepth_any p a1 a2 c1 c2 hok.body hok.bodyLen (by have := h.body; omega) w' hk.body
  have HNa : Hid (SmP p 1600 → ∀ w', PrIn w' p a1 a2 → Calls Try.prog 27 #[prV p a1 c1 a2 c2] w' fun e' w'' => GivesN w' (names p) e' w'') := fun h w' hk => onames_any p a1 a2 c1 c2 hok (by have := h.body; omega) (by have := h.params; omega) (fun j hj => by have := h.each j hj; omega) w' hk
  have HVE : Hid (SmP p 1600 → valE p = 0 → ∀ (e : Ex) (q : Option Addr) (x : Nat) (w' : World), e ∈ exprs p → Kids w' q e.args → Calls Try.prog 15 #[exV e q x] w' fun e' w'' => e' = .returned (.int .i64 0) ∧ Below w'.heap.size w' w'') := fun h hv e q x w' hm hk => by
    have := ovalidExpr_any e q x (exprs_ve hok.body e hm).1 (by have := (exprs_ve hok.body e hm).2; have := h.body; omega) w' hk
    rw [(exprs_valid hv e hm).1] at this
    exact this
  have HSE : Hid (valE p = 0 → ∀ (e : Ex) (q : Option Addr) (x : Nat) (w' : World), e ∈ exprs p → Kids w' q e.args → Calls Try.prog 14 #[exV e q x, .int .i64 800] w' fun e' w'' => e' = .returned (.bool true) ∧ Below w'.heap.size w' w'') := fun hv e q x w' hm hk => by
    have := rsmallExpr_any e q x 800 (by omega) (exprs_ve hok.body e hm).1 w' hk
    rw [decide_eq_true (exprs_valid hv e hm).2] at this
    exact this
  have HMa : Hid (valE p = 0 → nodes p ≤ 400 ∧ depth p ≤ 12 ∧ (names p).length ≤ 406 ∧ (exprs p).length ≤ nodes p) := fun hv => ⟨(val_parts hv).2.2.2, depth_valid hv, names_valid hv, exprs_count p⟩
  have HW := Lib.hid HWk
  have HK0 := Lib.hid (hK.below hw)
  have HB0 := Lib.hid hw
  have HX0 := Lib.hid hx
  clear HWk HE hok hK hw hx hc1
  generalize exprs p = xs at *
  generalize names p = ns at *
  generalize nodes p = nn at *
  generalize depth p = nd at *
  generalize small p 1600 = sm at *
  generalize valE p = ve at *
  unfold prV at *
  unfold prO at *
  obtain ⟨m1, hm1⟩ : ∃ m, p.params.length = m := ⟨_, rfl⟩
  obtain ⟨m2, hm2⟩ : ∃ m, p.body.length = m := ⟨_, rfl⟩
  obtain ⟨n1, hn1⟩ : ∃ m, p.name = m := ⟨_, rfl⟩
  simp only [hm1, hm2, hn1, show ((1600 : Nat) : Int) = 1600 from rfl] at HS HV HEx HNo HRn HDe HNa HX0 HB0 HK0 ⊢
  clear hm1 hm2 hn1
  cases sm
  · go_enter Try.func10, Try.ntmps10
    go_wp2_with fail
    refine HS.out.mono ?_; rintro e1 w1 ⟨rfl, hb1⟩
    have HB1 := Lib.hid (below_2 HB0.out hb1)
    clear hb1
    go_wp2_with fail
    refine (HW.out _).mono ?_; rintro e2 w2 ⟨rfl, hb2⟩
    go_wp2_with fail
    go_ret
    exact ⟨rfl, below_2 HB1.out hb2⟩
  · have HS3 := Lib.hid (HSM.out (by trivial))
    clear HSM
    go_enter Try.func10, Try.ntmps10
    go_wp2_with fail
    refine HS.out.mono ?_; rintro e1 w1 ⟨rfl, hb1⟩
    have HBw1 := Lib.hid (below_2 HB0.out hb1)
    have HKw1 := Lib.hid (HK0.out.below hb1)
    have HXw1 := Lib.hid (HX0.out.below hb1)
    have hSw1 : w1.cell? ⟨w.heap.size, 0, none⟩ = some (.string n1) ∧ w1.cell? ⟨w.heap.size, 1, none⟩ = some (.slice a1 m1 c1) ∧ w1.cell? ⟨w.heap.size, 2, none⟩ = some (.slice a2 m2 c2) := ⟨HXw1.out.cell 0, HXw1.out.cell 1, HXw1.out.cell 2⟩
    obtain ⟨x0, x1, x2⟩ := hSw1
    clear hb1
    go_wp2_with fail
    refine (HV.out HS3.out _ HKw1.out).mono ?_; rintro e2 w2 ⟨rfl, hb2⟩
    have HBw2 := Lib.hid (below_2 HBw1.out hb2)
    have HKw2 := Lib.hid (HKw1.out.below hb2)
    have HXw2 := Lib.hid (HXw1.out.below hb2)
    have hSw2 : w2.cell? ⟨w.heap.size, 0, none⟩ = some (.string n1) ∧ w2.cell? ⟨w.heap.size, 1, none⟩ = some (.slice a1 m1 c1) ∧ w2.cell? ⟨w.heap.size, 2, none⟩ = some (.slice a2 m2 c2) := ⟨HXw2.out.cell 0, HXw2.out.cell 1, HXw2.out.cell 2⟩
    clear hb2 x0 x1 x2
    by_cases hv : ve = 0
    · subst hv
      obtain ⟨g1, g2, g3, g4⟩ := HMa.out rfl
      have HVE2 := Lib.hid (HVE.out HS3.out rfl)
      have HSE2 := Lib.hid (HSE.out rfl)
      obtain ⟨x0, x1, x2⟩ := hSw2
      clear HMa HVE HSE
      go_wp2_with fail
      refine (HEx.out HS3.out _ HKw2.out).mono ?_; rintro e3 w3 ⟨pa, qa, rfl, hka, hb3⟩
      have HA3 := Lib.hid hka
      have HBw3 := Lib.hid (below_2 HBw2.out hb3)
      have HKw3 := Lib.hid (HKw2.out.below hb3)
      have HXw3 := Lib.hid (HXw2.out.below hb3)
      clear hb3 hka x0 x1 x2
      obtain ⟨m, hm⟩ : ∃ m, xs.length = m := ⟨_, rfl⟩
      have HM := Lib.hid hm
      rw [hm] at g4
      simp only [hm]
      clear hm
      go_wp2_with fail
      go_loopw [4] (fun s4 wr => ∃ k : Nat, k ≤ m ∧ s4 = .int .i64 k ∧ Hid (Below w3.heap.size w3 wr)) (fun s4 _ => m - (intOf s4).toNat)
      case atStart => exact ⟨0, Nat.zero_le _, rfl, Below.refl _ _⟩
      case round =>
        obtain ⟨k, hk, rfl, HBr⟩ := hrel
        by_cases hlt : k < m
        · have hlx : k < xs.length := by rw [HM.out]; exact hlt
          have hmem : xs[k] ∈ xs := List.getElem_mem hlx
          obtain ⟨b1, i1, rfl, h1⟩ := (HA3.out.below HBr.out).open hlx
          generalize xs[k] = x at hmem h1
          obtain ⟨d0, d1, d2, r1, s1, d3, hk1⟩ := h1.open
          have HQ1 := Lib.hid (HVE2.out x r1 s1 _ hmem hk1)
          have HQ2 := Lib.hid (fun w' h => HSE2.out x r1 s1 w' hmem h)
          have HK1 := Lib.hid hk1
          unfold exV at HQ1 HQ2
          clear h1 hk1 hmem
          generalize x.args.length = ml at *
          generalize x.op = xo at *
          generalize x.n = xn at *
          generalize x.s = xstr at *
          go_wp2_with fail
          refine HQ1.out.mono ?_; rintro e' wq ⟨rfl, hbq⟩
          have HBq := Lib.hid hbq
          have HKq := Lib.hid (HK1.out.below hbq)
          have f0 := (hbq.cell (block_lt_of_cell d0)).trans d0
          have f1 := (hbq.cell (block_lt_of_cell d1)).trans d1
          have f2 := (hbq.cell (block_lt_of_cell d2)).trans d2
          have f3 := (hbq.cell (block_lt_of_cell d3)).trans d3
          clear hbq d0 d1 d2 d3
          go_wp2_with fail
          refine (HQ2.out _ HKq.out).mono ?_; rintro e' wz ⟨rfl, hbz⟩
          have HBz := Lib.hid (below_2 HBq.out hbz)
          clear hbz f0 f1 f2 f3
          go_wp2_with fail
          go_roundw
          case rel => exact ⟨k + 1, by omega, by go_num, below_2 HBr.out HBz.out⟩
          case measure => simp [intOf]; omega
        · have HBw4 := Lib.hid (below_2 HBw3.out HBr.out)
          have HKw4 := Lib.hid (HKw3.out.below HBr.out)
          have HXw4 := Lib.hid (HXw3.out.below HBr.out)
          have q1 : decide ((nn : Int) ≤ 400) = true := decide_eq_true (by omega)
          have q2 : decide ((nd : Int) ≤ 12) = true := decide_eq_true (by omega)
          have q3 : decide ((ns.length : Int) ≤ 406) = true := decide_eq_true (by omega)
          have q4 : decide ((m : Int) ≤ (nn : Int)) = true := decide_eq_true (by omega)
          have q5 : decide (m ≤ nn) = true := decide_eq_true g4
          clear g1 g2 g3 q4
          have x0 := HXw4.out.cell 0
          have x1 := HXw4.out.cell 1
          have x2 := HXw4.out.cell 2
          simp at x0 x1 x2
          go_wp2_with fail
          refine (HNo.out HS3.out _ HKw4.out).mono ?_; rintro e' w5 ⟨rfl, hb⟩
          have HBw5 := Lib.hid (below_2 HBw4.out hb)
          have HKw5 := Lib.hid (HKw4.out.below hb)
          have HXw5 := Lib.hid (HXw4.out.below hb)
          clear hb x0 x1 x2
          have x0 := HXw5.out.cell 0
          have x1 := HXw5.out.cell 1
          have x2 := HXw5.out.cell 2
          simp at x0 x1 x2
          go_wp2_with fail
          refine (HNo.out HS3.out _ HKw5.out).mono ?_; rintro e' w6 ⟨rfl, hb⟩
          have HBw6 := Lib.hid (below_2 HBw5.out hb)
          have HKw6 := Lib.hid (HKw5.out.below hb)
          have HXw6 := Lib.hid (HXw5.out.below hb)
          clear hb x0 x1 x2
          have x0 := HXw6.out.cell 0
          have x1 := HXw6.out.cell 1
          have x2 := HXw6.out.cell 2
          simp at x0 x1 x2
          go_wp2_with fail
          refine (HDe.out HS3.out _ HKw6.out).mono ?_; rintro e' w7 ⟨rfl, hb⟩
          have HBw7 := Lib.hid (below_2 HBw6.out hb)
          have HKw7 := Lib.hid (HKw6.out.below hb)
          have HXw7 := Lib.hid (HXw6.out.below hb)
          clear hb x0 x1 x2
          have x0 := HXw7.out.cell 0
          have x1 := HXw7.out.cell 1
          have x2 := HXw7.out.cell 2
          simp at x0 x1 x2
          go_wp2_with fail
          refine (HNa.out HS3.out _ HKw7.out).mono ?_; rintro e' w8 ⟨pn, qn, rfl, _, _, hb⟩
          have HBw8 := Lib.hid (below_2 HBw7.out hb)
          have HKw8 := Lib.hid (HKw7.out.below hb)
          have HXw8 := Lib.hid (HXw7.out.below hb)
          clear hb x0 x1 x2
          have x0 := HXw8.out.cell 0
          have x1 := HXw8.out.cell 1
          have x2 := HXw8.out.cell 2
          simp at x0 x1 x2
          go_wp2_with fail
          refine (HRn.out _ HKw8.out).mono ?_; rintro e' w9 ⟨rfl, hb⟩
          have HBw9 := Lib.hid (below_2 HBw8.out hb)
          have HKw9 := Lib.hid (HKw8.out.below hb)
          have HXw9 := Lib.hid (HXw8.out.below hb)
          clear hb x0 x1 x2
          go_wp2_with fail
          refine (HW.out _).mono ?_; rintro e' w10 ⟨rfl, hb⟩
          go_wp2_with fail
          go_ret
          exact ⟨rfl, below_2 HBw9.out hb⟩
    · have bv : (ve != 0) = true := bne_iff_ne.2 hv
      go_wp2_with fail
      refine (HW.out _).mono ?_; rintro e' w11 ⟨rfl, hb11⟩
      go_wp2_with fail
      go_ret
      exact ⟨rfl, below_2 HBw2.out hb11⟩
end Go.Proofs.Ytffamknoamknpaa.A
namespace Go.Proofs.Ytffamknoamknpaa.A

theorem oexprs_holds : OExprs := fun p a1 a2 c1 c2 hok hsz w hK => oexprs_any p a1 a2 c1 c2 hok hsz w hK
theorem works_holds : Works := fun w => works_any (ex_calls oexprs_holds) w
end Go.Proofs.Ytffamknoamknpaa.A
