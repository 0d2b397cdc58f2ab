/-
  What the program's function occurs of layer 8 returns: its contract.
  What the reference of layer 8 returns: Exprs, Names: contracts.
  What the reference of layer 8 returns: Names: a contract.
  What the reference of layer 8 returns: stmt, for the operators of one kind.
-/
import Derived.Test.YtkjefigebdbkaaaDoorN11
import Derived.Test.YtkjefigebdbkaaaDoorN09
import Derived.Lib.SlicesS
import Derived.Deep.CutRange
import Derived.Deep.RegionHeld3
import Derived.Test.YtkjefigebdbkaaaDoorN10
import Derived.Test.YtkjefigebdbkaaaDoorN12
namespace Go.Proofs.YtkjefigebdbkaaaDoor.A
open Go.RowKit
open L (Str isName prt size_len below_2 below_box ret_bool ret_int eql_eq bytes_eq)

theorem names_len (p : Pr) (hpl : p.params.length ≤ 1000) : (names p).length ≤ 2000 := by
  unfold names
  rw [List.length_append, List.length_map]
  have h1 := List.length_filterMap_le V.decl (walk p)
  have h2 : (walk p).length ≤ 401 := by unfold walk; rw [List.length_take]; omega
  omega
end Go.Proofs.YtkjefigebdbkaaaDoor.A
namespace Go.Proofs.YtkjefigebdbkaaaDoor.A
open Go.RowKit
open L (Str isName prt size_len below_2 below_box ret_bool ret_int eql_eq bytes_eq)

theorem fm_take {α β : Type} (g : α → Option β) {l : List α} {k : Nat} (h : k < l.length) : (l.take (k + 1)).filterMap g = (l.take k).filterMap g ++ (match g l[k] with | some x => [x] | none => []) := by
  rw [List.take_succ_eq_append_getElem h, List.filterMap_append]
  congr 1
  rw [List.filterMap_cons]
  cases g l[k] <;> rfl
theorem fm_le {α β : Type} (g : α → Option β) (l : List α) (k : Nat) : ((l.take k).filterMap g).length ≤ k := by
  have := List.length_filterMap_le g (l.take k)
  rw [List.length_take] at this
  omega
end Go.Proofs.YtkjefigebdbkaaaDoor.A
namespace Go.Proofs.YtkjefigebdbkaaaDoor.A
open Go.RowKit
open L (Str isName prt size_len below_2 below_box ret_bool ret_int eql_eq bytes_eq)

set_option maxHeartbeats 8000000 in
set_option maxRecDepth 100000 in
theorem rnames_any (p : Pr) (a1 a2 : Option Addr) (c1 c2 : Nat) (hok : OkP p) (hpl : p.params.length ≤ 1000) (w : World) (hK : PrIn w p a1 a2) :
    Calls Tryd.prog 56 #[prV p a1 c1 a2 c2] w fun e' w' => GivesN w (names p) e' w' := by
  have hb := below_box w (prO p a1 c1 a2 c2)
  have hbx := Bx.new w #[.string p.name, .slice a1 p.params.length c1, .slice a2 p.body.length c2] 25
  have HC := Lib.hid (fun w' hK => rwalk_any p a1 a2 c1 c2 hok.body hok.bodyLen w' hK)
  have HB := Lib.hid hb
  have HBX := Lib.hid hbx
  have HK := Lib.hid (hK.below hb)
  have hn : (walk p).length ≤ 401 := by unfold walk; rw [List.length_take]; omega
  have hnl := names_len p hpl
  have HND : Hid (names p = p.params.map Pm.name ++ (walk p).filterMap V.decl) := rfl
  obtain ⟨m, hm⟩ : ∃ m, p.params.length = m := ⟨_, rfl⟩
  have HL := Lib.hid hm
  unfold prO at *
  unfold prV at *
  rw [hm] at HC HB HBX HK hpl ⊢
  clear hok hK hb hbx hm
  go_enter Tryd.func56, Tryd.ntmps56
  go_wp2_with fail
  go_loopw [3, 4] (fun s3 s4 wr => ∃ (k : Nat) (l : List ByteArray) (pl : Option Addr) (ql : Nat), k ≤ m ∧ s4 = .int .i64 k ∧ s3 = .slice pl l.length ql ∧ Hid (l = (p.params.take k).map Pm.name) ∧ Hid (Own1 kN wr (w.heap.size + 1) (fun j => j < w.heap.size + 1) (.slice pl l.length ql) l) ∧ Hid (Below (w.alloc (.cells #[.string p.name, .slice a1 m c1, .slice a2 p.body.length c2] 25)).heap.size (w.alloc (.cells #[.string p.name, .slice a1 m c1, .slice a2 p.body.length c2] 25)) wr)) (fun _ i _ => m - (intOf i).toNat)
  case atStart => exact ⟨0, [], none, 0, Nat.zero_le _, rfl, rfl, rfl, Own1.nil, Below.refl _ _⟩
  case round =>
    obtain ⟨k, l, pl, ql, hk, rfl, rfl, HX, HR, HBr⟩ := hrel
    have hllk : l.length ≤ k := by have := congrArg List.length HX.out; rw [List.length_map, List.length_take] at this; omega
    have hbx := HBX.out.below HBr.out
    have x0 := hbx.cell 0
    have x1 := hbx.cell 1
    have x2 := hbx.cell 2
    simp at x0 x1 x2
    have hz1 : (w.alloc (.cells #[.string p.name, .slice a1 m c1, .slice a2 p.body.length c2] 25)).heap.size = w.heap.size + 1 := by simp
    have hz := HBr.out.size
    rw [hz1] at hz
    have HZ1 := Lib.hid hz1
    clear hz1 hbx
    by_cases hlt : k < m
    · have hlx : k < p.params.length := by rw [HL.out]; exact hlt
      obtain ⟨b3, i3, rfl, hcc⟩ := (HK.out.below HBr.out).params.open hlx
      obtain ⟨f0, f1⟩ := hcc k hlx
      have hxn := names_take hlx
      generalize p.params[k] = q at f0 f1 hxn
      have HXN : Hid (l ++ [q.name] = (p.params.take (k + 1)).map Pm.name) := by show _ = _; rw [hxn, HX.out]
      have HL6 : Hid ((l ++ [q.name]).length = l.length + 1) := by show _ = _; simp
      clear hcc hxn
      go_wp2_with (at_builtin; refine kN.wpList rfl (.tmp 14) (.tmp 21) rfl (w.heap.size + 1) (.slice pl l.length ql) l rfl HR.out.row q.name _ rfl wr.heap.size rfl rfl (by omega) (by omega) ?_; intro g6 cap6 w6 hown6 hgrow6 hlie6)
      have HR6 := Lib.hid (HR.out.push trivial (fun j hj => by omega) hown6 hgrow6 hlie6)
      have HB6 := Lib.hid (HR.out.frame (by rw [← HZ1.out]; exact HBr.out) hz hgrow6)
      clear hown6 hgrow6 hlie6
      go_wp2_with fail
      go_roundw
      case rel => exact ⟨k + 1, l ++ [q.name], some ⟨g6, 0, none⟩, cap6, by omega, by go_num, by rw [HL6.out], HXN.out, by show Own1 _ _ _ _ _ _; rw [HL6.out]; exact HR6.out, by show Below _ _ _; rw [HZ1.out]; exact HB6.out⟩
      case measure => simp [intOf]; omega
    · have hX := HX.out
      rw [List.take_of_length_le (by rw [HL.out]; omega)] at hX
      have HX0 := Lib.hid hX
      have HC2 := Lib.hid (HC.out wr (HK.out.below HBr.out).body)
      clear hX
      go_wp2_with fail
      refine HC2.out.mono ?_; rintro e w2 ⟨p3, q3, l', rfl, ho, hi, hv, hb2⟩
      have HO := Lib.hid ho
      have HW := Lib.hid hv
      have HB2 := Lib.hid hb2
      have HR2 := Lib.hid (HR.out.below hb2)
      have hz2 := hb2.size
      have hln : l'.length ≤ 401 := by rw [← vs_len, hv]; exact hn
      clear ho hi hv hb2 x0 x1 x2
      go_wp2_with fail
      go_loopw [3, 6] (fun s3 s6 w3 => ∃ (k2 : Nat) (l2 : List ByteArray) (pl : Option Addr) (ql : Nat), k2 ≤ l'.length ∧ s6 = .int .i64 k2 ∧ s3 = .slice pl l2.length ql ∧ Hid (l2 = l ++ ((walk p).take k2).filterMap V.decl) ∧ Hid (Own1 kN w3 (w.heap.size + 1) (fun j => j < w.heap.size + 1) (.slice pl l2.length ql) l2) ∧ Hid (∀ g, p3 = some ⟨g, 0, none⟩ → w3.heap[g]? = w2.heap[g]? ∧ (Value.slice pl l2.length ql).ownBlock ≠ some g) ∧ Hid (Below (w.heap.size + 1) w2 w3)) (fun _ i _ => l'.length - (intOf i).toNat)
      case atStart =>
        refine ⟨0, l, pl, ql, Nat.zero_le _, rfl, rfl, (List.append_nil l).symm, HR2.out, fun g hg => ⟨rfl, fun h => ?_⟩, Below.refl _ _⟩
        have h1 := (HR.out.lt g h).2
        have h2 := (World.ownsRow.lt HO.out g (by rw [hg]; rfl)).1
        omega
      case round =>
        obtain ⟨k2, l2, pl2, ql2, hk2, rfl, rfl, HX2, HR3, HG, HBs⟩ := hrel
        have hll2 : l2.length ≤ 1000 + k2 := by
          have := congrArg List.length HX2.out
          rw [List.length_append] at this
          have h2 := fm_le V.decl (walk p) k2
          omega
        have hz3 := HBs.out.size
        by_cases hlt2 : k2 < l'.length
        · obtain ⟨g3, rfl, hcell⟩ := visit_cells HO.out hlt2
          have hlw : k2 < (walk p).length := by rw [← HW.out, vs_len]; exact hlt2
          have hvk : (walk p)[k2] = (l'[k2]).v := by simp only [← HW.out, vs, List.getElem_map]
          have hxt := fm_take V.decl hlw
          rw [hvk] at hxt
          obtain ⟨hgh, hgn⟩ := HG.out g3 rfl
          have hcr : ∀ r, r < 20 → wr.cell? ⟨g3, k2 * 20 + r, none⟩ = (l'[k2]).cells[r]? := fun r hr => (World.cell?_of_block (w := w2) (by exact hgh)).trans (hcell r hr)
          generalize l'[k2] = y at hcr hxt
          clear hvk hlw hcell
          cases y with
          | ex e r a5 c5 =>
            have f0 : wr.cell? ⟨g3, k2 * 20, none⟩ = some (.bool false) := hcr 0 (by omega)
            have HX3 : Hid (l2 = l ++ ((walk p).take (k2 + 1)).filterMap V.decl) := by show _ = _; rw [hxt, ← List.append_assoc, ← HX2.out]; exact (List.append_nil _).symm
            clear hcr hxt
            go_wp2_with fail
            go_roundw
            case rel => exact ⟨k2 + 1, l2, pl2, ql2, by omega, by go_num, rfl, HX3.out, HR3.out, HG.out, HBs.out⟩
            case measure => simp [intOf]; omega
          | st s d a5 c5 a6 c6 a7 c7 a8 c8 =>
            have f0 : wr.cell? ⟨g3, k2 * 20, none⟩ = some (.bool true) := hcr 0 (by omega)
            have f1 : wr.cell? ⟨g3, k2 * 20 + 1, none⟩ = some (.int .i64 s.op) := hcr 1 (by omega)
            have f2 : wr.cell? ⟨g3, k2 * 20 + 2, none⟩ = some (.string s.name) := hcr 2 (by omega)
            have hd : V.decl (VT.st s d a5 c5 a6 c6 a7 c7 a8 c8).v = if s.op = 1 ∨ s.op = 6 then some s.name else none := rfl
            rw [hd] at hxt
            by_cases hop : s.op = 1 ∨ s.op = 6
            · rw [if_pos hop] at hxt
              have HX3 : Hid (l2 ++ [s.name] = l ++ ((walk p).take (k2 + 1)).filterMap V.decl) := by show _ = _; rw [hxt, ← List.append_assoc, ← HX2.out]
              have HL6 : Hid ((l2 ++ [s.name]).length = l2.length + 1) := by show _ = _; simp
              have t2 : wr.cell? ⟨g3, k2 * 20 + 1 + 1, none⟩ = some (.string s.name) := f2
              have hg3 := block_lt_of_cell f0
              clear hcr hxt hd
              rcases hop with hop | hop
              all_goals
                rw [hop] at f1
                clear hop
                go_wp2_with (at_builtin; refine kN.wpList rfl (.tmp 54) (.tmp 61) rfl (w.heap.size + 1) (.slice pl2 l2.length ql2) l2 rfl HR3.out.row s.name _ rfl wr.heap.size rfl rfl (by omega) (by omega) ?_; intro g6 cap6 w6 hown6 hgrow6 hlie6)
                have HR6 := Lib.hid (HR3.out.push trivial (fun j hj => by omega) hown6 hgrow6 hlie6)
                have HB6 := Lib.hid (HR3.out.frame HBs.out (by omega) hgrow6)
                have HG6 : Hid (∀ g, (some ⟨g3, 0, none⟩ : Option Addr) = some ⟨g, 0, none⟩ → w6.heap[g]? = w2.heap[g]? ∧ (Value.slice (some ⟨g6, 0, none⟩) (l2.length + 1) cap6).ownBlock ≠ some g) := fun g hg => by
                  have hgg : g3 = g := by injection hg with h; injection h
                  subst hgg
                  refine ⟨((hgrow6.block g3 (by simp; exact Nat.lt_succ_of_lt hg3) (fun e => hgn e.symm)).trans (Below.heap_alloc wr _ g3 hg3)).trans hgh, fun h => ?_⟩
                  have h6 : g6 = g3 := by injection h
                  rcases hlie6 with h7 | h7
                  · exact hgn (by rw [h7, h6])
                  · have hlt9 : g3 < wr.heap.size := hg3
                    omega
                clear hown6 hgrow6 hlie6
                go_wp2_with fail
                go_roundw
                case rel => exact ⟨k2 + 1, l2 ++ [s.name], some ⟨g6, 0, none⟩, cap6, by omega, by go_num, by rw [HL6.out], HX3.out, by show Own1 _ _ _ _ _ _; rw [HL6.out]; exact HR6.out, by intro g hg; rw [HL6.out]; exact HG6.out g hg, HB6.out⟩
                case measure => simp [intOf]; omega
            · rw [if_neg hop] at hxt
              have HX3 : Hid (l2 = l ++ ((walk p).take (k2 + 1)).filterMap V.decl) := by show _ = _; rw [hxt, ← List.append_assoc, ← HX2.out]; exact (List.append_nil _).symm
              have o1 : (s.op == 1) = false := beq_eq_false_iff_ne.2 (by omega)
              have o6 : (s.op == 6) = false := beq_eq_false_iff_ne.2 (by omega)
              clear hcr hxt hd hop
              go_wp2_with fail
              go_roundw
              case rel => exact ⟨k2 + 1, l2, pl2, ql2, by omega, by go_num, rfl, HX3.out, HR3.out, HG.out, HBs.out⟩
              case measure => simp [intOf]; omega
        · have hX2 := HX2.out
          rw [List.take_of_length_le (by rw [← HW.out, vs_len]; omega), HX0.out, ← HND.out] at hX2
          obtain ⟨_, _, hsh, hle⟩ := HR3.out.shape
          have hq : l2.length ≤ ql2 := by injection hsh with h1 h2 h3; omega
          have HV : Hid (GivesN w (names p) (.returned (.slice pl2 l2.length ql2)) wr) := by
            refine ⟨pl2, ql2, by rw [hX2], by rw [← hX2]; exact hq, by rw [← hX2]; exact HR3.out.strs, ?_⟩
            exact (below_2 HB.out (below_2 HBr.out HB2.out)).trans (HBs.out.mono (Nat.le_succ _))
          clear hX2 hsh hle hq
          go_wp2_with fail
          go_ret
          exact HV.out
end Go.Proofs.YtkjefigebdbkaaaDoor.A
namespace Go.Proofs.YtkjefigebdbkaaaDoor.A
open Go.RowKit
open L (Str isName prt size_len below_2 below_box ret_bool ret_int eql_eq bytes_eq isName_any)

set_option maxHeartbeats 4000000 in
set_option maxRecDepth 100000 in
theorem rstmt_g0 (s : St) (a1 : Option Addr) (c1 : Nat) (a2 : Option Addr) (c2 : Nat) (a3 : Option Addr) (c3 : Nat) (a4 : Option Addr) (c4 : Nat) (d : Nat) (hop : s.op < 1 ∨ 8 < s.op) (w0 : World) :
    Calls Tryd.prog 89 #[stC s a1 c1 a2 c2 a3 c3 a4 c4, .int .i64 (d : Int)] w0 fun e' w' => e' = .returned (.int .i64 (stE s d)) ∧ Below w0.heap.size w0 w' := by
  have hU : usesV s.op = .tuple #[.bool false, .bool true, .bool false, .bool false, .bool false, .bool false] := by
    unfold usesV uN uM uA uB uD uE
    rw [decide_eq_false (show ¬ (s.op = 1 ∨ s.op = 2 ∨ s.op = 6) by omega), decide_eq_false (show ¬ (s.op = 1 ∨ s.op = 2 ∨ s.op = 3 ∨ s.op = 4 ∨ s.op = 5 ∨ s.op = 7) by omega), decide_eq_false (show ¬ (s.op = 1 ∨ s.op = 2 ∨ s.op = 3 ∨ s.op = 4 ∨ s.op = 5 ∨ s.op = 6 ∨ s.op = 7) by omega), decide_eq_false (show ¬ (s.op = 3 ∨ s.op = 6) by omega), decide_eq_false (show ¬ (s.op = 5 ∨ s.op = 6) by omega), decide_eq_false (show ¬ s.op = 5 by omega)]
    rfl
  have hbx := below_box w0 (stO s a1 c1 a2 c2 a3 c3 a4 c4)
  have HBc := Lib.hid hbx
  have HCw := Lib.hid (stO_cells w0 s a1 c1 a2 c2 a3 c3 a4 c4)
  have HUs : Hid (∀ w, Calls Tryd.prog 125 #[.int .i64 s.op] w fun e w' => e = .returned (.tuple #[.bool false, .bool true, .bool false, .bool false, .bool false, .bool false]) ∧ w' = w) := fun w => by rw [← hU]; exact ruses_any s.op w
  have hbb := bad_bools s
  obtain ⟨o1, ho1⟩ : ∃ b, decide (s.op < 1) = b := ⟨_, rfl⟩
  obtain ⟨o8, ho8⟩ : ∃ b, decide (8 < s.op) = b := ⟨_, rfl⟩
  rw [ho1, ho8] at hbb
  have HV : Hid (stE s d = 1) := st_bad (Or.inl (by
    rw [hbb]
    rcases hop with h | h
    · rw [← ho1, decide_eq_true h]; simp
    · rw [← ho8, decide_eq_true h]; simp))
  have hoo : o1 = true ∨ (o1 = false ∧ o8 = true) := by
    rcases hop with h | h
    · exact Or.inl (by rw [← ho1]; exact decide_eq_true h)
    · cases o1
      · exact Or.inr ⟨rfl, by rw [← ho8]; exact decide_eq_true h⟩
      · exact Or.inl rfl
  generalize stE s d = R at HV ⊢
  unfold stO at *
  unfold stC
  clear hop hU hbx hbb
  rcases hoo with rfl | ⟨rfl, rfl⟩
  all_goals
    go_enter Tryd.func89, Tryd.ntmps89
    obtain ⟨k0, k1, k2, k3, k4, k5, k6, k7, k8, k9, k10, k11, k12⟩ := HCw.out
    go_wp2_with fail
    refine (HUs.out _).mono ?_; rintro e' w1 ⟨rfl, hww⟩
    subst hww
    simp only []
    repeat ((first | (simp only [List.append_eq, List.cons_append, List.nil_append]) | go_values | go_skip | go_guarded | go_step | go_upon | go_back); refine ?_)
    go_ret
    exact ⟨ret_int HV.out.symm, HBc.out⟩
end Go.Proofs.YtkjefigebdbkaaaDoor.A
